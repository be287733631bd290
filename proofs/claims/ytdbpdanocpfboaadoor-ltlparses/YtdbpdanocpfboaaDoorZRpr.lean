import Derived.Test.YtdbpdanocpfboaaDoorZBun03
import Derived.WalkLawsBesides
import Derived.Laws.IdiomStrings
/- The document's own answer: what is written. -/
namespace Go.Proofs.YtdbpdanocpfboaaDoor
open Go.RowKit

theorem cell_alr {W : World} {p : Addr} {v : Value} (h : W.cell? p = some v) (o : Obj) : (W.alloc o).cell? p = some v :=
  (((Kept.refl (fun _ => False) W).alloc o).cell (lt_of_cell h) (fun f => f)).trans h
/-- the text as a value -/
def strV (l : List UInt8) : Value := .string ⟨l.toArray⟩
theorem strV_append (a b : List UInt8) : (⟨a.toArray⟩ ++ ⟨b.toArray⟩ : ByteArray) = ⟨(a ++ b).toArray⟩ := by
  rw [ByteArray.ext_iff]
  simp
theorem printT_len : ∀ (t : Tr), (printT t).length ≤ 5 * t.size
  | .mk op n [] => by
    unfold printT
    repeat' split
    all_goals simp [txTrue, txFalse, Tr.size, Tr.sizes]
  | .mk op n [a] => by
    have := printT_len a
    have : (unS op).length = 1 := by unfold unS; repeat' split
                                     all_goals rfl
    simp only [printT, Tr.size, Tr.sizes, List.length_append]
    omega
  | .mk op n (a :: b :: r) => by
    have h1 := printT_len a
    have h2 := printT_len b
    have : (biS op).length ≤ 2 := by unfold biS; repeat' split
                                     all_goals simp
    simp only [printT, Tr.size, Tr.sizes, List.length_append, List.length_cons, List.length_nil]
    omega
def Says16 (N : Nat) : Prop := ∀ (t : Tr), t.size ≤ N → N ≤ 16777216 → t.well → ∀ (w : World) (fv : Value), RV w.heap.size w fv t →
    Calls Tryd.prog 16 #[fv] w fun e w' => Kept (fun _ => False) w w' ∧ e = .returned (strV (printT t))

set_option maxRecDepth 100000 in
set_option maxHeartbeats 4000000 in
theorem print16_0 (N : Nat) (_hN : N + 1 ≤ 16777216) (_ih : Says16 N) (w : World) (fv : Value) (n : Int) (_hn : 0 ≤ n ∧ n ≤ topN 0) (hv : RV w.heap.size w fv (.mk 0 n [])) :
    Calls Tryd.prog 16 #[fv] w fun e w' => Kept (fun _ => False) w w' ∧ e = .returned (strV (printT (.mk 0 n []))) := by
  obtain ⟨ka, kb, ko, kc, rfl, _, _⟩ := hv
  clear _ih
  go_enter Tryd.func16, Tryd.ntmps16
  go_wp2
  go_ret
  exact ⟨(Kept.refl _ _).alloc _, rfl⟩

set_option maxRecDepth 100000 in
set_option maxHeartbeats 4000000 in
theorem print16_1 (N : Nat) (_hN : N + 1 ≤ 16777216) (_ih : Says16 N) (w : World) (fv : Value) (n : Int) (_hn : 0 ≤ n ∧ n ≤ topN 1) (hv : RV w.heap.size w fv (.mk 1 n [])) :
    Calls Tryd.prog 16 #[fv] w fun e w' => Kept (fun _ => False) w w' ∧ e = .returned (strV (printT (.mk 1 n []))) := by
  obtain ⟨ka, kb, ko, kc, rfl, _, _⟩ := hv
  clear _ih
  go_enter Tryd.func16, Tryd.ntmps16
  go_wp2
  go_ret
  exact ⟨(Kept.refl _ _).alloc _, rfl⟩

set_option maxRecDepth 100000 in
set_option maxHeartbeats 4000000 in
theorem print16_2 (N : Nat) (_hN : N + 1 ≤ 16777216) (_ih : Says16 N) (w : World) (fv : Value) (n : Int) (hn : 0 ≤ n ∧ n ≤ topN 2) (hv : RV w.heap.size w fv (.mk 2 n [])) :
    Calls Tryd.prog 16 #[fv] w fun e w' => Kept (fun _ => False) w w' ∧ e = .returned (strV (printT (.mk 2 n []))) := by
  obtain ⟨ka, kb, ko, kc, rfl, _, _⟩ := hv
  have h7 : topN 2 = 7 := rfl
  have hw : wrap64 (97 + n) = 97 + n := by unfold wrap64; omega
  have hcv : (convert 87 9 (.slice (some ⟨w.heap.size + 1, 0, none⟩) 1 1)).run Tryd.prog ((w.alloc (.cells #[.int .i64 2, .int .i64 n, .slice ka 0 kc] 30)).alloc (.cells #[.int .u8 (97 + n)] 5)) = .ok (.string ⟨#[UInt8.ofNat (97 + n).toNat]⟩) ((w.alloc (.cells #[.int .i64 2, .int .i64 n, .slice ka 0 kc] 30)).alloc (.cells #[.int .u8 (97 + n)] 5)) := by
    refine run_convert_bytes_back (P := Tryd.prog) _ 87 9 5 ⟨w.heap.size + 1, 0, none⟩ 1 [UInt8.ofNat (97 + n).toNat] Tryd.underlying87 Tryd.underlying5 Tryd.underlying9 (fun j hj => ?_)
    obtain rfl : j = 0 := by simpa using hj
    have e : (((UInt8.ofNat (97 + n).toNat).toNat : Nat) : Int) = 97 + n := by
      rw [UInt8.toNat_ofNat']
      omega
    simp only [List.getElem_cons_zero, e]
    simp [Addr.add]
  clear _ih
  go_enter Tryd.func16, Tryd.ntmps16
  go_wp2
  go_ret
  exact ⟨((Kept.refl _ _).alloc _).alloc _, rfl⟩

set_option maxRecDepth 100000 in
set_option maxHeartbeats 4000000 in
theorem print16_3 (N : Nat) (hN : N + 1 ≤ 16777216) (ih : Says16 N) (w : World) (fv : Value) (n : Int) (a : Tr) (ha : a.size ≤ N) (wa : a.well) (_hn : 0 ≤ n ∧ n ≤ topN 3) (hv : RV w.heap.size w fv (.mk 3 n [a])) :
    Calls Tryd.prog 16 #[fv] w fun e w' => Kept (fun _ => False) w w' ∧ e = .returned (strV (printT (.mk 3 n [a]))) := by
  obtain ⟨ka, kb, ko, kc, rfl, hka, hks⟩ := hv
  obtain rfl := hka (by simp)
  have IH : Hid (Says16 N) := ih
  obtain ⟨o1, n1, ks1⟩ := a
  obtain ⟨ka1, kc1, e0, e1, e2, hr1⟩ := hks.1.val
  have HR : Hid (RV w.heap.size w (.agg #[.int .i64 o1, .int .i64 n1, .slice ka1 ks1.length kc1]) (.mk o1 n1 ks1)) := hr1
  have kw : Kept (fun _ => False) w (w.alloc (.cells #[.int .i64 3, .int .i64 n, .slice (some ⟨kb, ko, none⟩) 1 kc] 30)) := (Kept.refl _ _).alloc _
  have f0 := cell_alr e0 (.cells #[.int .i64 3, .int .i64 n, .slice (some ⟨kb, ko, none⟩) 1 kc] 30)
  have f1 := cell_alr e1 (.cells #[.int .i64 3, .int .i64 n, .slice (some ⟨kb, ko, none⟩) 1 kc] 30)
  have f2 := cell_alr e2 (.cells #[.int .i64 3, .int .i64 n, .slice (some ⟨kb, ko, none⟩) 1 kc] 30)
  have HR1 : Hid (RV (w.alloc (.cells #[.int .i64 3, .int .i64 n, .slice (some ⟨kb, ko, none⟩) 1 kc] 30)).heap.size (w.alloc (.cells #[.int .i64 3, .int .i64 n, .slice (some ⟨kb, ko, none⟩) 1 kc] 30)) (.agg #[.int .i64 o1, .int .i64 n1, .slice ka1 ks1.length kc1]) (.mk o1 n1 ks1)) := HR.out.kept kw
  have hl := printT_len (.mk o1 n1 ks1)
  have c0 : (w.alloc (.cells #[.int .i64 3, .int .i64 n, .slice (some ⟨kb, ko, none⟩) 1 kc] 30)).cell? ⟨w.heap.size, 0, none⟩ = some (.int .i64 3) := by simp
  clear ih hks hr1 e0 e1 e2
  simp only [List.length_cons, List.length_nil, Nat.zero_add]
  go_enter Tryd.func16, Tryd.ntmps16
  go_wp2_with (go_at_call 16; refine (IH.out (.mk o1 n1 ks1) ha (by omega) wa _ _ HR1.out).mono ?_; rintro e w2 ⟨k2, rfl⟩; have c02 := (k2.cell (p := ⟨w.heap.size, 0, none⟩) (lt_of_cell c0) (fun f => f)).trans c0; simp only [strV])
  go_ret
  refine ⟨kw.trans k2 (fun _ _ f => f), ?_⟩
  rw [show (⟨#[33]⟩ : ByteArray) = ⟨([33] : List UInt8).toArray⟩ from rfl, strV_append]
  rfl

set_option maxRecDepth 100000 in
set_option maxHeartbeats 4000000 in
theorem print16_7 (N : Nat) (hN : N + 1 ≤ 16777216) (ih : Says16 N) (w : World) (fv : Value) (n : Int) (a : Tr) (ha : a.size ≤ N) (wa : a.well) (_hn : 0 ≤ n ∧ n ≤ topN 7) (hv : RV w.heap.size w fv (.mk 7 n [a])) :
    Calls Tryd.prog 16 #[fv] w fun e w' => Kept (fun _ => False) w w' ∧ e = .returned (strV (printT (.mk 7 n [a]))) := by
  obtain ⟨ka, kb, ko, kc, rfl, hka, hks⟩ := hv
  obtain rfl := hka (by simp)
  have IH : Hid (Says16 N) := ih
  obtain ⟨o1, n1, ks1⟩ := a
  obtain ⟨ka1, kc1, e0, e1, e2, hr1⟩ := hks.1.val
  have HR : Hid (RV w.heap.size w (.agg #[.int .i64 o1, .int .i64 n1, .slice ka1 ks1.length kc1]) (.mk o1 n1 ks1)) := hr1
  have kw : Kept (fun _ => False) w (w.alloc (.cells #[.int .i64 7, .int .i64 n, .slice (some ⟨kb, ko, none⟩) 1 kc] 30)) := (Kept.refl _ _).alloc _
  have f0 := cell_alr e0 (.cells #[.int .i64 7, .int .i64 n, .slice (some ⟨kb, ko, none⟩) 1 kc] 30)
  have f1 := cell_alr e1 (.cells #[.int .i64 7, .int .i64 n, .slice (some ⟨kb, ko, none⟩) 1 kc] 30)
  have f2 := cell_alr e2 (.cells #[.int .i64 7, .int .i64 n, .slice (some ⟨kb, ko, none⟩) 1 kc] 30)
  have HR1 : Hid (RV (w.alloc (.cells #[.int .i64 7, .int .i64 n, .slice (some ⟨kb, ko, none⟩) 1 kc] 30)).heap.size (w.alloc (.cells #[.int .i64 7, .int .i64 n, .slice (some ⟨kb, ko, none⟩) 1 kc] 30)) (.agg #[.int .i64 o1, .int .i64 n1, .slice ka1 ks1.length kc1]) (.mk o1 n1 ks1)) := HR.out.kept kw
  have hl := printT_len (.mk o1 n1 ks1)
  have c0 : (w.alloc (.cells #[.int .i64 7, .int .i64 n, .slice (some ⟨kb, ko, none⟩) 1 kc] 30)).cell? ⟨w.heap.size, 0, none⟩ = some (.int .i64 7) := by simp
  clear ih hks hr1 e0 e1 e2
  simp only [List.length_cons, List.length_nil, Nat.zero_add]
  go_enter Tryd.func16, Tryd.ntmps16
  go_wp2_with (go_at_call 16; refine (IH.out (.mk o1 n1 ks1) ha (by omega) wa _ _ HR1.out).mono ?_; rintro e w2 ⟨k2, rfl⟩; have c02 := (k2.cell (p := ⟨w.heap.size, 0, none⟩) (lt_of_cell c0) (fun f => f)).trans c0; simp only [strV])
  go_ret
  refine ⟨kw.trans k2 (fun _ _ f => f), ?_⟩
  rw [show (⟨#[88]⟩ : ByteArray) = ⟨([88] : List UInt8).toArray⟩ from rfl, strV_append]
  rfl

set_option maxRecDepth 100000 in
set_option maxHeartbeats 4000000 in
theorem print16_10 (N : Nat) (hN : N + 1 ≤ 16777216) (ih : Says16 N) (w : World) (fv : Value) (n : Int) (a : Tr) (ha : a.size ≤ N) (wa : a.well) (_hn : 0 ≤ n ∧ n ≤ topN 10) (hv : RV w.heap.size w fv (.mk 10 n [a])) :
    Calls Tryd.prog 16 #[fv] w fun e w' => Kept (fun _ => False) w w' ∧ e = .returned (strV (printT (.mk 10 n [a]))) := by
  obtain ⟨ka, kb, ko, kc, rfl, hka, hks⟩ := hv
  obtain rfl := hka (by simp)
  have IH : Hid (Says16 N) := ih
  obtain ⟨o1, n1, ks1⟩ := a
  obtain ⟨ka1, kc1, e0, e1, e2, hr1⟩ := hks.1.val
  have HR : Hid (RV w.heap.size w (.agg #[.int .i64 o1, .int .i64 n1, .slice ka1 ks1.length kc1]) (.mk o1 n1 ks1)) := hr1
  have kw : Kept (fun _ => False) w (w.alloc (.cells #[.int .i64 10, .int .i64 n, .slice (some ⟨kb, ko, none⟩) 1 kc] 30)) := (Kept.refl _ _).alloc _
  have f0 := cell_alr e0 (.cells #[.int .i64 10, .int .i64 n, .slice (some ⟨kb, ko, none⟩) 1 kc] 30)
  have f1 := cell_alr e1 (.cells #[.int .i64 10, .int .i64 n, .slice (some ⟨kb, ko, none⟩) 1 kc] 30)
  have f2 := cell_alr e2 (.cells #[.int .i64 10, .int .i64 n, .slice (some ⟨kb, ko, none⟩) 1 kc] 30)
  have HR1 : Hid (RV (w.alloc (.cells #[.int .i64 10, .int .i64 n, .slice (some ⟨kb, ko, none⟩) 1 kc] 30)).heap.size (w.alloc (.cells #[.int .i64 10, .int .i64 n, .slice (some ⟨kb, ko, none⟩) 1 kc] 30)) (.agg #[.int .i64 o1, .int .i64 n1, .slice ka1 ks1.length kc1]) (.mk o1 n1 ks1)) := HR.out.kept kw
  have hl := printT_len (.mk o1 n1 ks1)
  have c0 : (w.alloc (.cells #[.int .i64 10, .int .i64 n, .slice (some ⟨kb, ko, none⟩) 1 kc] 30)).cell? ⟨w.heap.size, 0, none⟩ = some (.int .i64 10) := by simp
  clear ih hks hr1 e0 e1 e2
  simp only [List.length_cons, List.length_nil, Nat.zero_add]
  go_enter Tryd.func16, Tryd.ntmps16
  go_wp2_with (go_at_call 16; refine (IH.out (.mk o1 n1 ks1) ha (by omega) wa _ _ HR1.out).mono ?_; rintro e w2 ⟨k2, rfl⟩; have c02 := (k2.cell (p := ⟨w.heap.size, 0, none⟩) (lt_of_cell c0) (fun f => f)).trans c0; simp only [strV])
  go_ret
  refine ⟨kw.trans k2 (fun _ _ f => f), ?_⟩
  rw [show (⟨#[70]⟩ : ByteArray) = ⟨([70] : List UInt8).toArray⟩ from rfl, strV_append]
  rfl

set_option maxRecDepth 100000 in
set_option maxHeartbeats 4000000 in
theorem print16_11 (N : Nat) (hN : N + 1 ≤ 16777216) (ih : Says16 N) (w : World) (fv : Value) (n : Int) (a : Tr) (ha : a.size ≤ N) (wa : a.well) (_hn : 0 ≤ n ∧ n ≤ topN 11) (hv : RV w.heap.size w fv (.mk 11 n [a])) :
    Calls Tryd.prog 16 #[fv] w fun e w' => Kept (fun _ => False) w w' ∧ e = .returned (strV (printT (.mk 11 n [a]))) := by
  obtain ⟨ka, kb, ko, kc, rfl, hka, hks⟩ := hv
  obtain rfl := hka (by simp)
  have IH : Hid (Says16 N) := ih
  obtain ⟨o1, n1, ks1⟩ := a
  obtain ⟨ka1, kc1, e0, e1, e2, hr1⟩ := hks.1.val
  have HR : Hid (RV w.heap.size w (.agg #[.int .i64 o1, .int .i64 n1, .slice ka1 ks1.length kc1]) (.mk o1 n1 ks1)) := hr1
  have kw : Kept (fun _ => False) w (w.alloc (.cells #[.int .i64 11, .int .i64 n, .slice (some ⟨kb, ko, none⟩) 1 kc] 30)) := (Kept.refl _ _).alloc _
  have f0 := cell_alr e0 (.cells #[.int .i64 11, .int .i64 n, .slice (some ⟨kb, ko, none⟩) 1 kc] 30)
  have f1 := cell_alr e1 (.cells #[.int .i64 11, .int .i64 n, .slice (some ⟨kb, ko, none⟩) 1 kc] 30)
  have f2 := cell_alr e2 (.cells #[.int .i64 11, .int .i64 n, .slice (some ⟨kb, ko, none⟩) 1 kc] 30)
  have HR1 : Hid (RV (w.alloc (.cells #[.int .i64 11, .int .i64 n, .slice (some ⟨kb, ko, none⟩) 1 kc] 30)).heap.size (w.alloc (.cells #[.int .i64 11, .int .i64 n, .slice (some ⟨kb, ko, none⟩) 1 kc] 30)) (.agg #[.int .i64 o1, .int .i64 n1, .slice ka1 ks1.length kc1]) (.mk o1 n1 ks1)) := HR.out.kept kw
  have hl := printT_len (.mk o1 n1 ks1)
  have c0 : (w.alloc (.cells #[.int .i64 11, .int .i64 n, .slice (some ⟨kb, ko, none⟩) 1 kc] 30)).cell? ⟨w.heap.size, 0, none⟩ = some (.int .i64 11) := by simp
  clear ih hks hr1 e0 e1 e2
  simp only [List.length_cons, List.length_nil, Nat.zero_add]
  go_enter Tryd.func16, Tryd.ntmps16
  go_wp2_with (go_at_call 16; refine (IH.out (.mk o1 n1 ks1) ha (by omega) wa _ _ HR1.out).mono ?_; rintro e w2 ⟨k2, rfl⟩; have c02 := (k2.cell (p := ⟨w.heap.size, 0, none⟩) (lt_of_cell c0) (fun f => f)).trans c0; simp only [strV])
  go_ret
  refine ⟨kw.trans k2 (fun _ _ f => f), ?_⟩
  rw [show (⟨#[71]⟩ : ByteArray) = ⟨([71] : List UInt8).toArray⟩ from rfl, strV_append]
  rfl

set_option maxRecDepth 100000 in
set_option maxHeartbeats 4000000 in
theorem print16_4 (N : Nat) (hN : N + 1 ≤ 16777216) (ih : Says16 N) (w : World) (fv : Value) (n : Int) (a b : Tr) (ha : a.size ≤ N) (hb : b.size ≤ N) (wa : a.well) (wb : b.well) (_hn : 0 ≤ n ∧ n ≤ topN 4) (hv : RV w.heap.size w fv (.mk 4 n [a, b])) :
    Calls Tryd.prog 16 #[fv] w fun e w' => Kept (fun _ => False) w w' ∧ e = .returned (strV (printT (.mk 4 n [a, b]))) := by
  obtain ⟨ka, kb, ko, kc, rfl, hka, hks⟩ := hv
  obtain rfl := hka (by simp)
  have IH : Hid (Says16 N) := ih
  obtain ⟨o1, n1, ks1⟩ := a
  obtain ⟨o2, n2, ks2⟩ := b
  obtain ⟨ka1, kc1, e0, e1, e2, hr1⟩ := hks.1.val
  obtain ⟨ka2, kc2, e3, e4, e5, hr2⟩ := hks.2.1.val
  have HR2 : Hid (RV w.heap.size w (.agg #[.int .i64 o2, .int .i64 n2, .slice ka2 ks2.length kc2]) (.mk o2 n2 ks2)) := hr2
  have kw : Kept (fun _ => False) w (w.alloc (.cells #[.int .i64 4, .int .i64 n, .slice (some ⟨kb, ko, none⟩) 2 kc] 30)) := (Kept.refl _ _).alloc _
  have f0 := cell_alr e0 (.cells #[.int .i64 4, .int .i64 n, .slice (some ⟨kb, ko, none⟩) 2 kc] 30)
  have f1 := cell_alr e1 (.cells #[.int .i64 4, .int .i64 n, .slice (some ⟨kb, ko, none⟩) 2 kc] 30)
  have f2 := cell_alr e2 (.cells #[.int .i64 4, .int .i64 n, .slice (some ⟨kb, ko, none⟩) 2 kc] 30)
  have f3 := cell_alr e3 (.cells #[.int .i64 4, .int .i64 n, .slice (some ⟨kb, ko, none⟩) 2 kc] 30)
  have f4 := cell_alr e4 (.cells #[.int .i64 4, .int .i64 n, .slice (some ⟨kb, ko, none⟩) 2 kc] 30)
  have f5 := cell_alr e5 (.cells #[.int .i64 4, .int .i64 n, .slice (some ⟨kb, ko, none⟩) 2 kc] 30)
  have HR1 : Hid (RV (w.alloc (.cells #[.int .i64 4, .int .i64 n, .slice (some ⟨kb, ko, none⟩) 2 kc] 30)).heap.size (w.alloc (.cells #[.int .i64 4, .int .i64 n, .slice (some ⟨kb, ko, none⟩) 2 kc] 30)) (.agg #[.int .i64 o1, .int .i64 n1, .slice ka1 ks1.length kc1]) (.mk o1 n1 ks1)) := hr1.kept kw
  have hl := printT_len (.mk o1 n1 ks1)
  have hl2 := printT_len (.mk o2 n2 ks2)
  have c0 : (w.alloc (.cells #[.int .i64 4, .int .i64 n, .slice (some ⟨kb, ko, none⟩) 2 kc] 30)).cell? ⟨w.heap.size, 0, none⟩ = some (.int .i64 4) := by simp
  have c2 : (w.alloc (.cells #[.int .i64 4, .int .i64 n, .slice (some ⟨kb, ko, none⟩) 2 kc] 30)).cell? ⟨w.heap.size, 2, none⟩ = some (.slice (some ⟨kb, ko, none⟩) 2 kc) := by simp
  clear ih hks hr1 hr2 e0 e1 e2 e3 e4 e5
  simp only [List.length_cons, List.length_nil, Nat.zero_add]
  go_enter Tryd.func16, Tryd.ntmps16
  go_upto_region 9 with (go_at_call 16; refine (IH.out (.mk o1 n1 ks1) ha (by omega) wa _ _ HR1.out).mono ?_; rintro e w2 ⟨k2, rfl⟩)
  have c02 := (k2.cell (p := ⟨w.heap.size, 0, none⟩) (lt_of_cell c0) (fun f => f)).trans c0
  have c22 := (k2.cell (p := ⟨w.heap.size, 2, none⟩) (lt_of_cell c2) (fun f => f)).trans c2
  have f32 := (k2.cell (lt_of_cell f3) (fun f => f)).trans f3
  have f42 := (k2.cell (lt_of_cell f4) (fun f => f)).trans f4
  have f52 := (k2.cell (lt_of_cell f5) (fun f => f)).trans f5
  have HR22 : Hid (RV w2.heap.size w2 (.agg #[.int .i64 o2, .int .i64 n2, .slice ka2 ks2.length kc2]) (.mk o2 n2 ks2)) := HR2.out.kept (kw.trans k2 (fun _ _ f => f))
  clear f0 f1 f2 f3 f4 f5 c0 c2
  go_upto_region 19 with (go_at_call 16; refine (IH.out (.mk o2 n2 ks2) hb (by omega) wb _ _ HR22.out).mono ?_; rintro e w3 ⟨k3, rfl⟩)
  have c03 := (k3.cell (p := ⟨w.heap.size, 0, none⟩) (lt_of_cell c02) (fun f => f)).trans c02
  clear c02 c22 f32 f42 f52
  simp only [strV]
  go_wp2
  go_ret
  refine ⟨(kw.trans k2 (fun _ _ f => f)).trans k3 (fun _ _ f => f), ?_⟩
  rw [show (⟨#[40]⟩ : ByteArray) = ⟨([40] : List UInt8).toArray⟩ from rfl, show (⟨#[41]⟩ : ByteArray) = ⟨([41] : List UInt8).toArray⟩ from rfl, show (⟨#[38]⟩ : ByteArray) = ⟨([38] : List UInt8).toArray⟩ from rfl, strV_append, strV_append, strV_append, strV_append]
  rfl

set_option maxRecDepth 100000 in
set_option maxHeartbeats 4000000 in
theorem print16_5 (N : Nat) (hN : N + 1 ≤ 16777216) (ih : Says16 N) (w : World) (fv : Value) (n : Int) (a b : Tr) (ha : a.size ≤ N) (hb : b.size ≤ N) (wa : a.well) (wb : b.well) (_hn : 0 ≤ n ∧ n ≤ topN 5) (hv : RV w.heap.size w fv (.mk 5 n [a, b])) :
    Calls Tryd.prog 16 #[fv] w fun e w' => Kept (fun _ => False) w w' ∧ e = .returned (strV (printT (.mk 5 n [a, b]))) := by
  obtain ⟨ka, kb, ko, kc, rfl, hka, hks⟩ := hv
  obtain rfl := hka (by simp)
  have IH : Hid (Says16 N) := ih
  obtain ⟨o1, n1, ks1⟩ := a
  obtain ⟨o2, n2, ks2⟩ := b
  obtain ⟨ka1, kc1, e0, e1, e2, hr1⟩ := hks.1.val
  obtain ⟨ka2, kc2, e3, e4, e5, hr2⟩ := hks.2.1.val
  have HR2 : Hid (RV w.heap.size w (.agg #[.int .i64 o2, .int .i64 n2, .slice ka2 ks2.length kc2]) (.mk o2 n2 ks2)) := hr2
  have kw : Kept (fun _ => False) w (w.alloc (.cells #[.int .i64 5, .int .i64 n, .slice (some ⟨kb, ko, none⟩) 2 kc] 30)) := (Kept.refl _ _).alloc _
  have f0 := cell_alr e0 (.cells #[.int .i64 5, .int .i64 n, .slice (some ⟨kb, ko, none⟩) 2 kc] 30)
  have f1 := cell_alr e1 (.cells #[.int .i64 5, .int .i64 n, .slice (some ⟨kb, ko, none⟩) 2 kc] 30)
  have f2 := cell_alr e2 (.cells #[.int .i64 5, .int .i64 n, .slice (some ⟨kb, ko, none⟩) 2 kc] 30)
  have f3 := cell_alr e3 (.cells #[.int .i64 5, .int .i64 n, .slice (some ⟨kb, ko, none⟩) 2 kc] 30)
  have f4 := cell_alr e4 (.cells #[.int .i64 5, .int .i64 n, .slice (some ⟨kb, ko, none⟩) 2 kc] 30)
  have f5 := cell_alr e5 (.cells #[.int .i64 5, .int .i64 n, .slice (some ⟨kb, ko, none⟩) 2 kc] 30)
  have HR1 : Hid (RV (w.alloc (.cells #[.int .i64 5, .int .i64 n, .slice (some ⟨kb, ko, none⟩) 2 kc] 30)).heap.size (w.alloc (.cells #[.int .i64 5, .int .i64 n, .slice (some ⟨kb, ko, none⟩) 2 kc] 30)) (.agg #[.int .i64 o1, .int .i64 n1, .slice ka1 ks1.length kc1]) (.mk o1 n1 ks1)) := hr1.kept kw
  have hl := printT_len (.mk o1 n1 ks1)
  have hl2 := printT_len (.mk o2 n2 ks2)
  have c0 : (w.alloc (.cells #[.int .i64 5, .int .i64 n, .slice (some ⟨kb, ko, none⟩) 2 kc] 30)).cell? ⟨w.heap.size, 0, none⟩ = some (.int .i64 5) := by simp
  have c2 : (w.alloc (.cells #[.int .i64 5, .int .i64 n, .slice (some ⟨kb, ko, none⟩) 2 kc] 30)).cell? ⟨w.heap.size, 2, none⟩ = some (.slice (some ⟨kb, ko, none⟩) 2 kc) := by simp
  clear ih hks hr1 hr2 e0 e1 e2 e3 e4 e5
  simp only [List.length_cons, List.length_nil, Nat.zero_add]
  go_enter Tryd.func16, Tryd.ntmps16
  go_upto_region 9 with (go_at_call 16; refine (IH.out (.mk o1 n1 ks1) ha (by omega) wa _ _ HR1.out).mono ?_; rintro e w2 ⟨k2, rfl⟩)
  have c02 := (k2.cell (p := ⟨w.heap.size, 0, none⟩) (lt_of_cell c0) (fun f => f)).trans c0
  have c22 := (k2.cell (p := ⟨w.heap.size, 2, none⟩) (lt_of_cell c2) (fun f => f)).trans c2
  have f32 := (k2.cell (lt_of_cell f3) (fun f => f)).trans f3
  have f42 := (k2.cell (lt_of_cell f4) (fun f => f)).trans f4
  have f52 := (k2.cell (lt_of_cell f5) (fun f => f)).trans f5
  have HR22 : Hid (RV w2.heap.size w2 (.agg #[.int .i64 o2, .int .i64 n2, .slice ka2 ks2.length kc2]) (.mk o2 n2 ks2)) := HR2.out.kept (kw.trans k2 (fun _ _ f => f))
  clear f0 f1 f2 f3 f4 f5 c0 c2
  go_upto_region 19 with (go_at_call 16; refine (IH.out (.mk o2 n2 ks2) hb (by omega) wb _ _ HR22.out).mono ?_; rintro e w3 ⟨k3, rfl⟩)
  have c03 := (k3.cell (p := ⟨w.heap.size, 0, none⟩) (lt_of_cell c02) (fun f => f)).trans c02
  clear c02 c22 f32 f42 f52
  simp only [strV]
  go_wp2
  go_ret
  refine ⟨(kw.trans k2 (fun _ _ f => f)).trans k3 (fun _ _ f => f), ?_⟩
  rw [show (⟨#[40]⟩ : ByteArray) = ⟨([40] : List UInt8).toArray⟩ from rfl, show (⟨#[41]⟩ : ByteArray) = ⟨([41] : List UInt8).toArray⟩ from rfl, show (⟨#[124]⟩ : ByteArray) = ⟨([124] : List UInt8).toArray⟩ from rfl, strV_append, strV_append, strV_append, strV_append]
  rfl

set_option maxRecDepth 100000 in
set_option maxHeartbeats 4000000 in
theorem print16_6 (N : Nat) (hN : N + 1 ≤ 16777216) (ih : Says16 N) (w : World) (fv : Value) (n : Int) (a b : Tr) (ha : a.size ≤ N) (hb : b.size ≤ N) (wa : a.well) (wb : b.well) (_hn : 0 ≤ n ∧ n ≤ topN 6) (hv : RV w.heap.size w fv (.mk 6 n [a, b])) :
    Calls Tryd.prog 16 #[fv] w fun e w' => Kept (fun _ => False) w w' ∧ e = .returned (strV (printT (.mk 6 n [a, b]))) := by
  obtain ⟨ka, kb, ko, kc, rfl, hka, hks⟩ := hv
  obtain rfl := hka (by simp)
  have IH : Hid (Says16 N) := ih
  obtain ⟨o1, n1, ks1⟩ := a
  obtain ⟨o2, n2, ks2⟩ := b
  obtain ⟨ka1, kc1, e0, e1, e2, hr1⟩ := hks.1.val
  obtain ⟨ka2, kc2, e3, e4, e5, hr2⟩ := hks.2.1.val
  have HR2 : Hid (RV w.heap.size w (.agg #[.int .i64 o2, .int .i64 n2, .slice ka2 ks2.length kc2]) (.mk o2 n2 ks2)) := hr2
  have kw : Kept (fun _ => False) w (w.alloc (.cells #[.int .i64 6, .int .i64 n, .slice (some ⟨kb, ko, none⟩) 2 kc] 30)) := (Kept.refl _ _).alloc _
  have f0 := cell_alr e0 (.cells #[.int .i64 6, .int .i64 n, .slice (some ⟨kb, ko, none⟩) 2 kc] 30)
  have f1 := cell_alr e1 (.cells #[.int .i64 6, .int .i64 n, .slice (some ⟨kb, ko, none⟩) 2 kc] 30)
  have f2 := cell_alr e2 (.cells #[.int .i64 6, .int .i64 n, .slice (some ⟨kb, ko, none⟩) 2 kc] 30)
  have f3 := cell_alr e3 (.cells #[.int .i64 6, .int .i64 n, .slice (some ⟨kb, ko, none⟩) 2 kc] 30)
  have f4 := cell_alr e4 (.cells #[.int .i64 6, .int .i64 n, .slice (some ⟨kb, ko, none⟩) 2 kc] 30)
  have f5 := cell_alr e5 (.cells #[.int .i64 6, .int .i64 n, .slice (some ⟨kb, ko, none⟩) 2 kc] 30)
  have HR1 : Hid (RV (w.alloc (.cells #[.int .i64 6, .int .i64 n, .slice (some ⟨kb, ko, none⟩) 2 kc] 30)).heap.size (w.alloc (.cells #[.int .i64 6, .int .i64 n, .slice (some ⟨kb, ko, none⟩) 2 kc] 30)) (.agg #[.int .i64 o1, .int .i64 n1, .slice ka1 ks1.length kc1]) (.mk o1 n1 ks1)) := hr1.kept kw
  have hl := printT_len (.mk o1 n1 ks1)
  have hl2 := printT_len (.mk o2 n2 ks2)
  have c0 : (w.alloc (.cells #[.int .i64 6, .int .i64 n, .slice (some ⟨kb, ko, none⟩) 2 kc] 30)).cell? ⟨w.heap.size, 0, none⟩ = some (.int .i64 6) := by simp
  have c2 : (w.alloc (.cells #[.int .i64 6, .int .i64 n, .slice (some ⟨kb, ko, none⟩) 2 kc] 30)).cell? ⟨w.heap.size, 2, none⟩ = some (.slice (some ⟨kb, ko, none⟩) 2 kc) := by simp
  clear ih hks hr1 hr2 e0 e1 e2 e3 e4 e5
  simp only [List.length_cons, List.length_nil, Nat.zero_add]
  go_enter Tryd.func16, Tryd.ntmps16
  go_upto_region 9 with (go_at_call 16; refine (IH.out (.mk o1 n1 ks1) ha (by omega) wa _ _ HR1.out).mono ?_; rintro e w2 ⟨k2, rfl⟩)
  have c02 := (k2.cell (p := ⟨w.heap.size, 0, none⟩) (lt_of_cell c0) (fun f => f)).trans c0
  have c22 := (k2.cell (p := ⟨w.heap.size, 2, none⟩) (lt_of_cell c2) (fun f => f)).trans c2
  have f32 := (k2.cell (lt_of_cell f3) (fun f => f)).trans f3
  have f42 := (k2.cell (lt_of_cell f4) (fun f => f)).trans f4
  have f52 := (k2.cell (lt_of_cell f5) (fun f => f)).trans f5
  have HR22 : Hid (RV w2.heap.size w2 (.agg #[.int .i64 o2, .int .i64 n2, .slice ka2 ks2.length kc2]) (.mk o2 n2 ks2)) := HR2.out.kept (kw.trans k2 (fun _ _ f => f))
  clear f0 f1 f2 f3 f4 f5 c0 c2
  go_upto_region 19 with (go_at_call 16; refine (IH.out (.mk o2 n2 ks2) hb (by omega) wb _ _ HR22.out).mono ?_; rintro e w3 ⟨k3, rfl⟩)
  have c03 := (k3.cell (p := ⟨w.heap.size, 0, none⟩) (lt_of_cell c02) (fun f => f)).trans c02
  clear c02 c22 f32 f42 f52
  simp only [strV]
  go_wp2
  go_ret
  refine ⟨(kw.trans k2 (fun _ _ f => f)).trans k3 (fun _ _ f => f), ?_⟩
  rw [show (⟨#[40]⟩ : ByteArray) = ⟨([40] : List UInt8).toArray⟩ from rfl, show (⟨#[41]⟩ : ByteArray) = ⟨([41] : List UInt8).toArray⟩ from rfl, show (⟨#[45, 62]⟩ : ByteArray) = ⟨([45, 62] : List UInt8).toArray⟩ from rfl, strV_append, strV_append, strV_append, strV_append]
  rfl

set_option maxRecDepth 100000 in
set_option maxHeartbeats 4000000 in
theorem print16_8 (N : Nat) (hN : N + 1 ≤ 16777216) (ih : Says16 N) (w : World) (fv : Value) (n : Int) (a b : Tr) (ha : a.size ≤ N) (hb : b.size ≤ N) (wa : a.well) (wb : b.well) (_hn : 0 ≤ n ∧ n ≤ topN 8) (hv : RV w.heap.size w fv (.mk 8 n [a, b])) :
    Calls Tryd.prog 16 #[fv] w fun e w' => Kept (fun _ => False) w w' ∧ e = .returned (strV (printT (.mk 8 n [a, b]))) := by
  obtain ⟨ka, kb, ko, kc, rfl, hka, hks⟩ := hv
  obtain rfl := hka (by simp)
  have IH : Hid (Says16 N) := ih
  obtain ⟨o1, n1, ks1⟩ := a
  obtain ⟨o2, n2, ks2⟩ := b
  obtain ⟨ka1, kc1, e0, e1, e2, hr1⟩ := hks.1.val
  obtain ⟨ka2, kc2, e3, e4, e5, hr2⟩ := hks.2.1.val
  have HR2 : Hid (RV w.heap.size w (.agg #[.int .i64 o2, .int .i64 n2, .slice ka2 ks2.length kc2]) (.mk o2 n2 ks2)) := hr2
  have kw : Kept (fun _ => False) w (w.alloc (.cells #[.int .i64 8, .int .i64 n, .slice (some ⟨kb, ko, none⟩) 2 kc] 30)) := (Kept.refl _ _).alloc _
  have f0 := cell_alr e0 (.cells #[.int .i64 8, .int .i64 n, .slice (some ⟨kb, ko, none⟩) 2 kc] 30)
  have f1 := cell_alr e1 (.cells #[.int .i64 8, .int .i64 n, .slice (some ⟨kb, ko, none⟩) 2 kc] 30)
  have f2 := cell_alr e2 (.cells #[.int .i64 8, .int .i64 n, .slice (some ⟨kb, ko, none⟩) 2 kc] 30)
  have f3 := cell_alr e3 (.cells #[.int .i64 8, .int .i64 n, .slice (some ⟨kb, ko, none⟩) 2 kc] 30)
  have f4 := cell_alr e4 (.cells #[.int .i64 8, .int .i64 n, .slice (some ⟨kb, ko, none⟩) 2 kc] 30)
  have f5 := cell_alr e5 (.cells #[.int .i64 8, .int .i64 n, .slice (some ⟨kb, ko, none⟩) 2 kc] 30)
  have HR1 : Hid (RV (w.alloc (.cells #[.int .i64 8, .int .i64 n, .slice (some ⟨kb, ko, none⟩) 2 kc] 30)).heap.size (w.alloc (.cells #[.int .i64 8, .int .i64 n, .slice (some ⟨kb, ko, none⟩) 2 kc] 30)) (.agg #[.int .i64 o1, .int .i64 n1, .slice ka1 ks1.length kc1]) (.mk o1 n1 ks1)) := hr1.kept kw
  have hl := printT_len (.mk o1 n1 ks1)
  have hl2 := printT_len (.mk o2 n2 ks2)
  have c0 : (w.alloc (.cells #[.int .i64 8, .int .i64 n, .slice (some ⟨kb, ko, none⟩) 2 kc] 30)).cell? ⟨w.heap.size, 0, none⟩ = some (.int .i64 8) := by simp
  have c2 : (w.alloc (.cells #[.int .i64 8, .int .i64 n, .slice (some ⟨kb, ko, none⟩) 2 kc] 30)).cell? ⟨w.heap.size, 2, none⟩ = some (.slice (some ⟨kb, ko, none⟩) 2 kc) := by simp
  clear ih hks hr1 hr2 e0 e1 e2 e3 e4 e5
  simp only [List.length_cons, List.length_nil, Nat.zero_add]
  go_enter Tryd.func16, Tryd.ntmps16
  go_upto_region 9 with (go_at_call 16; refine (IH.out (.mk o1 n1 ks1) ha (by omega) wa _ _ HR1.out).mono ?_; rintro e w2 ⟨k2, rfl⟩)
  have c02 := (k2.cell (p := ⟨w.heap.size, 0, none⟩) (lt_of_cell c0) (fun f => f)).trans c0
  have c22 := (k2.cell (p := ⟨w.heap.size, 2, none⟩) (lt_of_cell c2) (fun f => f)).trans c2
  have f32 := (k2.cell (lt_of_cell f3) (fun f => f)).trans f3
  have f42 := (k2.cell (lt_of_cell f4) (fun f => f)).trans f4
  have f52 := (k2.cell (lt_of_cell f5) (fun f => f)).trans f5
  have HR22 : Hid (RV w2.heap.size w2 (.agg #[.int .i64 o2, .int .i64 n2, .slice ka2 ks2.length kc2]) (.mk o2 n2 ks2)) := HR2.out.kept (kw.trans k2 (fun _ _ f => f))
  clear f0 f1 f2 f3 f4 f5 c0 c2
  go_upto_region 19 with (go_at_call 16; refine (IH.out (.mk o2 n2 ks2) hb (by omega) wb _ _ HR22.out).mono ?_; rintro e w3 ⟨k3, rfl⟩)
  have c03 := (k3.cell (p := ⟨w.heap.size, 0, none⟩) (lt_of_cell c02) (fun f => f)).trans c02
  clear c02 c22 f32 f42 f52
  simp only [strV]
  go_wp2
  go_ret
  refine ⟨(kw.trans k2 (fun _ _ f => f)).trans k3 (fun _ _ f => f), ?_⟩
  rw [show (⟨#[40]⟩ : ByteArray) = ⟨([40] : List UInt8).toArray⟩ from rfl, show (⟨#[41]⟩ : ByteArray) = ⟨([41] : List UInt8).toArray⟩ from rfl, show (⟨#[85]⟩ : ByteArray) = ⟨([85] : List UInt8).toArray⟩ from rfl, strV_append, strV_append, strV_append, strV_append]
  rfl

set_option maxRecDepth 100000 in
set_option maxHeartbeats 4000000 in
theorem print16_9 (N : Nat) (hN : N + 1 ≤ 16777216) (ih : Says16 N) (w : World) (fv : Value) (n : Int) (a b : Tr) (ha : a.size ≤ N) (hb : b.size ≤ N) (wa : a.well) (wb : b.well) (_hn : 0 ≤ n ∧ n ≤ topN 9) (hv : RV w.heap.size w fv (.mk 9 n [a, b])) :
    Calls Tryd.prog 16 #[fv] w fun e w' => Kept (fun _ => False) w w' ∧ e = .returned (strV (printT (.mk 9 n [a, b]))) := by
  obtain ⟨ka, kb, ko, kc, rfl, hka, hks⟩ := hv
  obtain rfl := hka (by simp)
  have IH : Hid (Says16 N) := ih
  obtain ⟨o1, n1, ks1⟩ := a
  obtain ⟨o2, n2, ks2⟩ := b
  obtain ⟨ka1, kc1, e0, e1, e2, hr1⟩ := hks.1.val
  obtain ⟨ka2, kc2, e3, e4, e5, hr2⟩ := hks.2.1.val
  have HR2 : Hid (RV w.heap.size w (.agg #[.int .i64 o2, .int .i64 n2, .slice ka2 ks2.length kc2]) (.mk o2 n2 ks2)) := hr2
  have kw : Kept (fun _ => False) w (w.alloc (.cells #[.int .i64 9, .int .i64 n, .slice (some ⟨kb, ko, none⟩) 2 kc] 30)) := (Kept.refl _ _).alloc _
  have f0 := cell_alr e0 (.cells #[.int .i64 9, .int .i64 n, .slice (some ⟨kb, ko, none⟩) 2 kc] 30)
  have f1 := cell_alr e1 (.cells #[.int .i64 9, .int .i64 n, .slice (some ⟨kb, ko, none⟩) 2 kc] 30)
  have f2 := cell_alr e2 (.cells #[.int .i64 9, .int .i64 n, .slice (some ⟨kb, ko, none⟩) 2 kc] 30)
  have f3 := cell_alr e3 (.cells #[.int .i64 9, .int .i64 n, .slice (some ⟨kb, ko, none⟩) 2 kc] 30)
  have f4 := cell_alr e4 (.cells #[.int .i64 9, .int .i64 n, .slice (some ⟨kb, ko, none⟩) 2 kc] 30)
  have f5 := cell_alr e5 (.cells #[.int .i64 9, .int .i64 n, .slice (some ⟨kb, ko, none⟩) 2 kc] 30)
  have HR1 : Hid (RV (w.alloc (.cells #[.int .i64 9, .int .i64 n, .slice (some ⟨kb, ko, none⟩) 2 kc] 30)).heap.size (w.alloc (.cells #[.int .i64 9, .int .i64 n, .slice (some ⟨kb, ko, none⟩) 2 kc] 30)) (.agg #[.int .i64 o1, .int .i64 n1, .slice ka1 ks1.length kc1]) (.mk o1 n1 ks1)) := hr1.kept kw
  have hl := printT_len (.mk o1 n1 ks1)
  have hl2 := printT_len (.mk o2 n2 ks2)
  have c0 : (w.alloc (.cells #[.int .i64 9, .int .i64 n, .slice (some ⟨kb, ko, none⟩) 2 kc] 30)).cell? ⟨w.heap.size, 0, none⟩ = some (.int .i64 9) := by simp
  have c2 : (w.alloc (.cells #[.int .i64 9, .int .i64 n, .slice (some ⟨kb, ko, none⟩) 2 kc] 30)).cell? ⟨w.heap.size, 2, none⟩ = some (.slice (some ⟨kb, ko, none⟩) 2 kc) := by simp
  clear ih hks hr1 hr2 e0 e1 e2 e3 e4 e5
  simp only [List.length_cons, List.length_nil, Nat.zero_add]
  go_enter Tryd.func16, Tryd.ntmps16
  go_upto_region 9 with (go_at_call 16; refine (IH.out (.mk o1 n1 ks1) ha (by omega) wa _ _ HR1.out).mono ?_; rintro e w2 ⟨k2, rfl⟩)
  have c02 := (k2.cell (p := ⟨w.heap.size, 0, none⟩) (lt_of_cell c0) (fun f => f)).trans c0
  have c22 := (k2.cell (p := ⟨w.heap.size, 2, none⟩) (lt_of_cell c2) (fun f => f)).trans c2
  have f32 := (k2.cell (lt_of_cell f3) (fun f => f)).trans f3
  have f42 := (k2.cell (lt_of_cell f4) (fun f => f)).trans f4
  have f52 := (k2.cell (lt_of_cell f5) (fun f => f)).trans f5
  have HR22 : Hid (RV w2.heap.size w2 (.agg #[.int .i64 o2, .int .i64 n2, .slice ka2 ks2.length kc2]) (.mk o2 n2 ks2)) := HR2.out.kept (kw.trans k2 (fun _ _ f => f))
  clear f0 f1 f2 f3 f4 f5 c0 c2
  go_upto_region 19 with (go_at_call 16; refine (IH.out (.mk o2 n2 ks2) hb (by omega) wb _ _ HR22.out).mono ?_; rintro e w3 ⟨k3, rfl⟩)
  have c03 := (k3.cell (p := ⟨w.heap.size, 0, none⟩) (lt_of_cell c02) (fun f => f)).trans c02
  clear c02 c22 f32 f42 f52
  simp only [strV]
  go_wp2
  go_ret
  refine ⟨(kw.trans k2 (fun _ _ f => f)).trans k3 (fun _ _ f => f), ?_⟩
  rw [show (⟨#[40]⟩ : ByteArray) = ⟨([40] : List UInt8).toArray⟩ from rfl, show (⟨#[41]⟩ : ByteArray) = ⟨([41] : List UInt8).toArray⟩ from rfl, show (⟨#[82]⟩ : ByteArray) = ⟨([82] : List UInt8).toArray⟩ from rfl, strV_append, strV_append, strV_append, strV_append]
  rfl

theorem print16 : ∀ (N : Nat), Says16 N := by
  intro N
  induction N with
  | zero => intro t ht; have := t.size_pos; omega
  | succ N ih =>
    rintro ⟨op, n, l⟩ ht hN htw w fv hv
    have hw := htw.1
    have hn : 0 ≤ n ∧ n ≤ topN op := ⟨hw.2.2.2.1, hw.2.2.2.2⟩
    have hws := htw.2
    rcases kids_len hw with ⟨rfl, hop⟩ | ⟨a, rfl, hop⟩ | ⟨a, b, rfl, hop⟩
    · rcases hop with rfl | rfl | rfl
      · exact print16_0 N hN ih w fv n hn hv
      · exact print16_1 N hN ih w fv n hn hv
      · exact print16_2 N hN ih w fv n hn hv
    · have ha : a.size ≤ N := by simp [Tr.size, Tr.sizes] at ht; omega
      have wa : a.well := hws.1
      rcases hop with rfl | rfl | rfl | rfl
      · exact print16_3 N hN ih w fv n a ha wa hn hv
      · exact print16_7 N hN ih w fv n a ha wa hn hv
      · exact print16_10 N hN ih w fv n a ha wa hn hv
      · exact print16_11 N hN ih w fv n a ha wa hn hv
    · have hab : a.size ≤ N ∧ b.size ≤ N := by simp [Tr.size, Tr.sizes] at ht; omega
      have wa : a.well := hws.1
      have wb : b.well := hws.2.1
      rcases hop with rfl | rfl | rfl | rfl | rfl
      · exact print16_4 N hN ih w fv n a b hab.1 hab.2 wa wb hn hv
      · exact print16_5 N hN ih w fv n a b hab.1 hab.2 wa wb hn hv
      · exact print16_6 N hN ih w fv n a b hab.1 hab.2 wa wb hn hv
      · exact print16_8 N hN ih w fv n a b hab.1 hab.2 wa wb hn hv
      · exact print16_9 N hN ih w fv n a b hab.1 hab.2 wa wb hn hv
end Go.Proofs.YtdbpdanocpfboaaDoor
