import Derived.RangeFuncBox
import Derived.RangeFuncLeaves
import Derived.Shelf.Abstract
import Derived.TacticsInMore
import Derived.LoopNIn
import Derived.LoopIn
import Derived.OwnWalkIn
import Derived.Sort.OwnSortedInts
import Derived.Test.YtdbpdanocpfboabGreatDoorZShf
import Derived.Test.YtdbpdanocpfboabGreatDoorZBun04
/- distinct: the values of a list, sorted, those alike beside each other taken away. -/
namespace Go.Proofs.YtdbpdanocpfboabGreatDoor
open Go.RowKit Go.Shelf Go.Sort
attribute [local go_sem] Oper.semAt_some

theorem info9' : (Tryz.prog.info? 9).map (fun i => (i.zero, i.size, i.bytes)) = some (some (.string ByteArray.empty), 1, 16) := by kernel_rfl
theorem compact_nodup {α : Type} [Inhabited α] [DecidableEq α] (zs : List α) (le : α → α → Bool) (hs : zs.Pairwise (fun a b => le a b = true)) (anti : ∀ a b, le a b = true → le b a = true → a = b) : decide ((Lib.compact zs).length = zs.length) = decide zs.Nodup := by
  rw [decide_eq_decide]
  have e1 : (Lib.compact zs).length = zs.length ↔ ∀ j, j < zs.length → Lib.keeps zs.toArray j = true := by
    unfold Lib.compact Lib.compactUpTo
    rw [List.length_map]
    constructor
    · intro h j hj
      have h2 : ((List.range zs.length).filter (Lib.keeps zs.toArray)).length = (List.range zs.length).length := by rw [h]; simp
      exact List.length_filter_eq_length_iff.1 h2 j (by simpa using hj)
    · intro h
      rw [List.filter_eq_self.2 (fun j hj => h j (by simpa using hj))]
      simp
  rw [e1]
  have hg : ∀ j (hj : j < zs.length), zs.toArray[j]! = zs[j] := fun j hj => by simp [hj]
  rw [List.pairwise_iff_getElem] at hs
  constructor
  · intro h
    unfold List.Nodup
    rw [List.pairwise_iff_getElem]
    intro i j hi hj hij e
    have hk := h j hj
    unfold Lib.keeps at hk
    rw [hg j hj, hg (j - 1) (by omega)] at hk
    have hk' := of_decide_eq_true hk
    rcases hk' with h0 | h0
    · omega
    · by_cases e2 : i = j - 1
      · subst e2; exact h0 e.symm
      · have h1 := hs i (j - 1) hi (by omega) (by omega)
        have h2 := hs (j - 1) j (by omega) hj (by omega)
        rw [e] at h1
        exact h0 (anti _ _ h1 h2)
  · intro h j hj
    unfold Lib.keeps
    by_cases h0 : j = 0
    · simp [h0]
    · rw [hg j hj, hg (j - 1) (by omega)]
      unfold List.Nodup at h
      rw [List.pairwise_iff_getElem] at h
      have := h (j - 1) j (by omega) hj (by omega)
      simp only [decide_eq_true_eq]
      right
      exact fun e => this e.symm
theorem nodup_perm {α : Type} [DecidableEq α] {a b : List α} (h : a.Perm b) : decide a.Nodup = decide b.Nodup := by rw [decide_eq_decide]; exact h.nodup_iff
theorem sortS_nodup (zs : List (List UInt8)) : decide ((Lib.compact (zs.mergeSort fun x y => decide (x ≤ y))).length = zs.length) = decide zs.Nodup := by
  have h := compact_nodup (zs.mergeSort fun x y => decide (x ≤ y)) (fun x y => decide (x ≤ y))
    (List.pairwise_mergeSort (le := fun x y => decide (x ≤ y)) (fun a b c h1 h2 => by simp only [decide_eq_true_eq] at *; exact List.le_trans h1 h2) (fun a b => by simp only [Bool.or_eq_true, decide_eq_true_eq]; exact List.le_total a b) zs)
    (fun a b h1 h2 => by simp only [decide_eq_true_eq] at *; exact List.le_antisymm h1 h2)
  rw [List.length_mergeSort] at h
  rw [h]
  exact nodup_perm (List.mergeSort_perm _ _)
theorem sortI_nodup (zs : List Int) : decide ((Lib.compact (zs.mergeSort fun x y => decide (x ≤ y))).length = zs.length) = decide zs.Nodup := by
  have h := compact_nodup (zs.mergeSort fun x y => decide (x ≤ y)) (fun x y => decide (x ≤ y))
    (List.pairwise_mergeSort (le := fun x y => decide (x ≤ y)) (fun a b c h1 h2 => by simp only [decide_eq_true_eq] at *; omega) (fun a b => by simp only [Bool.or_eq_true, decide_eq_true_eq]; omega) zs)
    (fun a b h1 h2 => by simp only [decide_eq_true_eq] at *; omega)
  rw [List.length_mergeSort] at h
  rw [h]
  exact nodup_perm (List.mergeSort_perm _ _)
/-- the bytes of each -/
def bytesL (ss : List ByteArray) : List (List UInt8) := ss.map fun b => b.data.toList
theorem bytesL_enc (ss : List ByteArray) : (bytesL ss).map encStr = ss.map Value.string := by simp [bytesL, encStr, Function.comp_def]
theorem bytesL_length (ss : List ByteArray) : (bytesL ss).length = ss.length := by simp [bytesL]
theorem bytesL_nodup (ss : List ByteArray) : decide (bytesL ss).Nodup = decide ss.Nodup := by
  rw [decide_eq_decide]
  unfold bytesL List.Nodup
  rw [List.pairwise_map]
  constructor
  · intro h; exact h.imp (fun hne e => hne (by rw [e]))
  · intro h; exact h.imp (fun hne e => hne (by
      rename_i a b
      rcases a with ⟨a⟩; rcases b with ⟨b⟩
      simp at e; rw [e]))
theorem take_step {α : Type} {l : List α} {k : Nat} (h : k < l.length) : l.take (k + 1) = l.take k ++ [l[k]] := by
  rw [List.take_add_one, List.getElem?_eq_getElem h]; rfl

--BEGIN
set_option maxRecDepth 100000 in
set_option maxHeartbeats 2000000 in
theorem vals98 (F : Fence) (n : Nat) (hF : F.fn 98) (hro : F.round = none) (hn : 1 ≤ n) (l Bs B : Nat) (a : Option Addr) (cap : Nat) (ss : List ByteArray) (hl : ss.length ≤ 17592186044416) (J Jx : List ByteArray → World → Prop)
    (hY : ∀ pre x W, J pre W → pre.length < ss.length → YieldAt F (n - 1) Tryz.prog l #[.string x] W fun e W' =>
      (e = .returned (.bool true) ∧ J (pre ++ [x]) W' ∧ Below B W W') ∨ (e = .returned (.bool false) ∧ Jx (pre ++ [x]) W'))
    (W : World) (hBs : W.cell? ⟨Bs, 0, none⟩ = some (.slice a ss.length cap)) (hv : LsV B W (.slice a ss.length cap) (ss.map Value.string)) (h0 : J [] W) :
    CallsIn F n Tryz.prog 98 #[.func (.yield l) #[] #[], .pointer (some ⟨Bs, 0, none⟩)] W fun e W' => (∃ v, e = .returned v) ∧
      ((∃ ys, ys = ss ∧ J ys W') ∨ (∃ pre, True ∧ Jx pre W')) := by
  refine callsIn_of_wp Tryz.func98 rfl hF ?_ hro
  simp only [Tryz.ntmps98, List.size_toArray, List.length_cons, List.length_nil, Nat.reduceAdd, Nat.reduceSub, Array.replicate_succ, Array.replicate_zero, List.push_toArray, List.append_toArray, List.nil_append, List.cons_append]
  have HV : Hid (LsV B W (.slice a ss.length cap) (ss.map Value.string)) := hv
  clear hv
  gi_wp2
  gi_loopw [7] (fun i wr => ∃ k : Nat, k ≤ ss.length ∧ i = .int .i64 k ∧ J (ss.take k) wr ∧ Below B W wr)
    (fun i _ => ss.length - (intOf i).toNat)
  case atStart => exact ⟨0, Nat.zero_le _, rfl, by simpa using h0, Below.refl _ _⟩
  case round =>
    obtain ⟨k, hk, rfl, hJs, hnx⟩ := hrel
    by_cases hlt : k < ss.length
    · have hlt' : (k : Int) < (ss.length : Int) := by omega
      obtain ⟨b, off, rfl, _, hcx⟩ := (HV.out.below hnx).cell (i := k) (x := .string ss[k]) (by simp [hlt])
      obtain ⟨fn, tmps, assign, body, hy, hR⟩ := hY _ ss[k] wr hJs (by simp; omega)
      have HT : Hid (ss.take (k + 1) = ss.take k ++ [ss[k]]) := take_step hlt
      generalize ss[k] = x at *
      gi_wp2
      refine hR.mono ?_
      rintro e W3 (⟨rfl, hJ3, hk3⟩ | ⟨rfl, hJx3⟩)
      · gi_wp2
        go_roundw
        case rel => exact ⟨k + 1, by omega, by simp, by rw [HT.out]; exact hJ3, hnx.trans hk3⟩
        case measure => simp [intOf]; omega
      · gi_wp2
        refine bodyPost_ret (results_none rfl _ _ _) rfl ?_
        exact ⟨⟨_, rfl⟩, .inr ⟨_, trivial, hJx3⟩⟩
    · obtain rfl : k = ss.length := by omega
      gi_wp2
      go_end0
      exact ⟨⟨_, rfl⟩, .inl ⟨_, rfl, by simpa using hJs⟩⟩

set_option maxRecDepth 100000 in
set_option maxHeartbeats 1000000 in
theorem vals76 (a : Option Addr) (len cap : Nat) (w : World) :
    Calls Tryz.prog 76 #[.slice a len cap] w fun e w' => e = .returned (.func (.func 98) #[] #[.pointer (some ⟨w.heap.size, 0, none⟩)]) ∧ w' = w.alloc (.cells #[.slice a len cap] 22) := by
  go_enter Tryz.func76, Tryz.ntmps76
  go_wp2
  go_ret
  exact ⟨rfl, rfl⟩

set_option maxRecDepth 100000 in
set_option maxHeartbeats 2000000 in
theorem seq113 (w : World) (Bs B : Nat) (a : Option Addr) (cap : Nat) (ss : List ByteArray) (hl : ss.length ≤ 4398046511104) (hBs : w.cell? ⟨Bs, 0, none⟩ = some (.slice a ss.length cap)) (hv : LsV B w (.slice a ss.length cap) (ss.map Value.string)) (hB : B ≤ w.heap.size) :
    Calls Tryz.prog 113 #[.slice none 0 0, .func (.func 98) #[] #[.pointer (some ⟨Bs, 0, none⟩)]] w fun e w' => ∃ sv, e = .returned sv ∧ w'.ownsRow w.heap.size 9 1 sv ss.length (ss.map Value.string) ∧ Kept (fun _ => False) w w' := by
  refine (callsIn_wide (n := 9)).1 (callsIn_of_wp_marks Tryz.func113 rfl trivial ?_ rfl)
  simp only [Tryz.ntmps113, List.size_toArray, List.length_cons, List.length_nil, Nat.reduceAdd, Nat.reduceSub, Array.replicate_succ, Array.replicate_zero, List.push_toArray, List.append_toArray, List.nil_append, List.cons_append]
  have hBl := lt_of_cell hBs
  obtain ⟨W0, hW0⟩ : ∃ W0, w.alloc (.cells #[.slice none 0 0] 22) = W0 := ⟨_, rfl⟩
  have hs0 : W0.heap.size = w.heap.size + 1 := by rw [← hW0]; simp
  have hx0 : Boxed W0 w.heap.size 22 (.slice none 0 0) := by rw [← hW0]; exact Boxed.new w 22 _
  have hk0 : Kept (fun _ => False) w W0 := by rw [← hW0]; exact (Kept.refl _ _).alloc _
  have hBs0 : W0.cell? ⟨Bs, 0, none⟩ = some (.slice a ss.length cap) := (hk0.cell (p := ⟨Bs, 0, none⟩) hBl (fun f => f)).trans hBs
  have hv0 : LsV B W0 (.slice a ss.length cap) (ss.map Value.string) := hv.kept hk0 hB
  clear hv hBs
  gi_wp2
  clear hW0
  obtain ⟨i0, hi, hz0, hz1, hz2⟩ := info_parts info9'
  have hsq : SeqStopsK Fence.wide (9 - 1) Tryz.prog 98 #[.pointer (some ⟨Bs, 0, none⟩)] (fun x : ByteArray => #[.string x]) (Below B) (fun ys => ys = ss) (fun _ => True) ss.length W0 := by
    intro l J Jx W hW _ _ hY hJ0
    exact vals98 Fence.wide (9 - 1) trivial rfl (by decide) l Bs B a cap ss (by omega) J Jx hY W ((hW.cell (p := ⟨Bs, 0, none⟩) (by simp; omega)).trans hBs0) (hv0.below (hW.mono (by omega))) hJ0
  refine wpIn_rangeFunc_ownG (F := Fence.wide) rfl (by decide) (gf := 98) (lb := #[.pointer (some ⟨Bs, 0, none⟩)]) rfl trivial (enters_of Tryz.func98 (by kernel_rfl) rfl) hsq (fun h h' => h.trans h')
    (fun W l o o' hl h1 h2 h3 => ((Kept.refl (fun k => k = l) W).grown (grownBy_putObj' W l o') (fun k _ e => by cases e; rfl)).below (by have := (Array.getElem?_eq_some_iff.1 h1).1; omega) (fun k e => by omega)) (Below.refl _ _) (fun _ => rfl)
    (fun pre W => ∃ sv, Boxed W w.heap.size 22 sv ∧ W.ownsRow w.heap.size 9 1 sv pre.length (pre.map Value.string) ∧ Kept (fun _ => False) w W)
    (fun _ _ _ => False) ?own (fun _ _ _ _ _ h _ _ => h) ?zero
    (fun x => { tmps := #[.slice none 0 0, .func (.func 98) #[] #[.pointer (some ⟨Bs, 0, none⟩)], .pointer (some ⟨w.heap.size, 0, none⟩), undef, .slice none 0 0, .string x, .func (.func 98) #[] #[.pointer (some ⟨Bs, 0, none⟩)], .string x, undef, undef, undef, undef, undef], defers := [] }) ?assign ?body ?done ?stop
  case own =>
    rintro pre W W' row ⟨sv, hb, hr, hk⟩ hgr hrr
    refine ⟨sv, hb.kept hgr (fun e => ?_), hr.kept hgr ?_, hk.grown hgr (fun k hk0 e => ?_)⟩
    · have := (hrr _ e.symm).1; omega
    · rcases hr.2 with ⟨rfl, _⟩ | ⟨g, cap, cur, rfl, _, hgb, _⟩
      · exact .inl rfl
      · refine .inr fun e' => ?_
        obtain ⟨_, o, ho, hc⟩ := hrr g (by simpa [Value.ownBlock] using e'.symm)
        rw [hgb] at ho; cases ho; cases hc
    · have := (hrr _ e.symm).1; omega
  case zero => exact ⟨_, hx0, ⟨rfl, .inl ⟨rfl, rfl⟩⟩, hk0⟩
  case assign =>
    intro l x W K hK
    gi_wp2
    exact hK
  case body =>
    rintro l pre x W ⟨sv, hb, hr, hk⟩ hlen
    have cb := hb.cell
    have fb := hb.frozen
    have hW0 := hk.size
    have hWb := hb.lt
    have HB : Hid (Boxed W w.heap.size 22 sv) := hb
    clear hb
    gi_wp2_with (gi_at_builtin; go_must (refine wpListIn_append_own _ rfl _ _ 22 rfl w.heap.size 9 i0 _ 1 16 Tryz.underlying22 hi hz0 hz1 hz2 rfl (by decide) sv pre.length _ rfl (hr.alloc _) ⟨W.heap.size, 0, none⟩ 1 1 [.string x] rfl rfl (cell_one_new _ _ _) (by intro y hy; simp at hy; subst hy; rfl) (by unfold maxLen; omega) (by omega) (by simp; omega) ?_); intro v7 w7 hown7 hgrow7 hloc7; obtain ⟨q1, q2, q3, q4, q5⟩ := Boxed.appended HB.out (by decide) hr (by omega) (Nat.le_refl _) hown7 hgrow7; have c7 := q1.cell; have f7 := q1.frozen; obtain ⟨g7, cp7, rfl⟩ := ownsRow_form hown7)
    refine ⟨q4.from _, q5.mono (by omega), _, q2, by simpa using q3, ?_⟩
    exact hk.trans (Kept.of_below q5) (fun k hk' e => by omega)
  case done =>
    rintro D xs W hD rfl ⟨sv, hb, hr, hk⟩ hK
    have cb := hb.cell
    gi_wp2
    refine ⟨by simp, .inl ⟨_, _, rfl, run_takeDeferred hK, ?_⟩⟩
    refine ⟨_, results_tmp rfl _ _ _, sv, rfl, ownsRow_putObj hr _ hK rfl, hk.grown (grownBy_putObj' _ _ _) (fun k hk' e => by cases e; omega)⟩
  case stop =>
    rintro D c' pre W _ _ h
    exact h.elim

set_option maxRecDepth 100000 in
set_option maxHeartbeats 1000000 in
theorem collect96 (w : World) (Bs B : Nat) (a : Option Addr) (cap : Nat) (ss : List ByteArray) (hl : ss.length ≤ 4398046511104) (hBs : w.cell? ⟨Bs, 0, none⟩ = some (.slice a ss.length cap)) (hv : LsV B w (.slice a ss.length cap) (ss.map Value.string)) (hB : B ≤ w.heap.size) :
    Calls Tryz.prog 96 #[.func (.func 98) #[] #[.pointer (some ⟨Bs, 0, none⟩)]] w fun e w' => ∃ sv, e = .returned sv ∧ w'.ownsRow w.heap.size 9 1 sv ss.length (ss.map Value.string) ∧ Kept (fun _ => False) w w' := by
  go_enter Tryz.func96, Tryz.ntmps96
  have h := seq113 w Bs B a cap ss hl hBs hv hB
  clear hBs hv
  go_wp2_with (go_at_call 113; refine h.mono ?_; rintro e w1 ⟨sv, rfl, hr, hk⟩)
  go_ret
  exact ⟨sv, rfl, hr, hk⟩

theorem sort97 (w : World) (base : Nat) (sv : Value) (ss : List ByteArray) (hl : ss.length ≤ 4398046511104) (hr : w.ownsRow base 9 1 sv ss.length (ss.map Value.string)) :
    Calls Tryz.prog 97 #[sv] w fun e w' => e = .returned (.tuple #[]) ∧ w'.ownsRow base 9 1 sv ss.length (((bytesL ss).mergeSort fun x y => decide (x ≤ y)).map encStr) ∧ Kept (fun k => inRow sv k) w w' := by
  rcases hr.2 with ⟨rfl, h0⟩ | ⟨g, cap, cur, rfl, hbase, hb, h1, h2, h3, h4⟩
  · obtain rfl : ss = [] := by simpa using h0
    refine (Tryz.slices_Sort_string_none none 0 w).mono ?_
    rintro e w' ⟨rfl, rfl⟩
    exact ⟨rfl, by simpa [bytesL] using hr, Kept.refl _ _⟩
  · have hlt := (Array.getElem?_eq_some_iff.1 hb).1
    have h := Tryz.slices_Sort_string g 0 cap (bytesL ss) w (holds_of_block hb (by rw [bytesL_length, bytesL_enc]; simpa using h4)) hlt (by rw [bytesL_length]; omega)
    rw [bytesL_length] at h
    refine h.mono ?_
    rintro e w' ⟨rfl, n, os, rfl⟩
    refine ⟨rfl, ?_, (Kept.refl _ _).grown (grownBy_sorted _) (fun k _ e => e)⟩
    have h5 := ownsRow_sorted (n := n) (os := os) (ss := bytesL ss) (ts := (bytesL ss).mergeSort fun x y => decide (x ≤ y)) (by simp) hbase hb (by rw [bytesL_length]; exact h1) h2 h3
    rw [bytesL_length] at h5
    exact h5

set_option maxRecDepth 100000 in
set_option maxHeartbeats 1000000 in
theorem sorted75 (w : World) (Bs B : Nat) (a : Option Addr) (cap : Nat) (ss : List ByteArray) (hl : ss.length ≤ 4398046511104) (hBs : w.cell? ⟨Bs, 0, none⟩ = some (.slice a ss.length cap)) (hv : LsV B w (.slice a ss.length cap) (ss.map Value.string)) (hB : B ≤ w.heap.size) :
    Calls Tryz.prog 75 #[.func (.func 98) #[] #[.pointer (some ⟨Bs, 0, none⟩)]] w fun e w' => ∃ sv, e = .returned sv ∧ w'.ownsRow w.heap.size 9 1 sv ss.length (((bytesL ss).mergeSort fun x y => decide (x ≤ y)).map encStr) ∧ Kept (fun _ => False) w w' := by
  go_enter Tryz.func75, Tryz.ntmps75
  have h := collect96 w Bs B a cap ss hl hBs hv hB
  clear hBs hv
  go_wp2_with (first
    | (go_at_call 96; refine h.mono ?_; rintro e w1 ⟨sv, rfl, hr, hk⟩)
    | (go_at_call 97; refine (sort97 _ _ sv ss hl hr).mono ?_; rintro e w2 ⟨rfl, hr2, hk2⟩))
  go_ret
  exact ⟨sv, rfl, hr2, hk.trans hk2 (fun k hk' e => by have := (ownsRow_lt hr e).2; omega)⟩

theorem compact77 (w : World) (base : Nat) (sv : Value) (n : Nat) (zs : List (List UInt8)) (hz : zs.length = n) (hl : n ≤ 4398046511104) (hr : w.ownsRow base 9 1 sv n (zs.map encStr)) :
    Calls Tryz.prog 77 #[sv] w fun e w' => ∃ a cp, e = .returned (.slice a (Lib.compact zs).length cp) ∧ Kept (fun k => inRow sv k) w w' := by
  subst hz
  rcases hr.2 with ⟨rfl, h0⟩ | ⟨g, cap, cur, rfl, hbase, hb, h1, h2, h3, h4⟩
  · obtain rfl : zs = [] := by simpa using h0
    refine (Tryz.slices_Compact_string_empty none 0 w).mono ?_
    rintro e w' ⟨rfl, rfl⟩
    exact ⟨none, 0, rfl, Kept.refl _ _⟩
  · refine (Tryz.slices_Compact_string g 0 cap zs w (holds_of_block hb (by simpa using h4)) (by omega) h1).mono ?_
    rintro e w' ⟨rfl, q, rfl⟩
    refine ⟨_, _, rfl, ?_⟩
    have := (Kept.refl (fun k => inRow (.slice (some ⟨g, 0, none⟩) zs.length cap) k) w).grown (grownBy_sorted (w := w) (g := g) (n := q) (os := #[]) (Lib.compact zs ++ List.replicate (zs.length - (Lib.compact zs).length) []).toArray) (fun k _ e => e)
    simpa using this

set_option maxRecDepth 100000 in
set_option maxHeartbeats 1000000 in
theorem distinct51 (w : World) (B : Nat) (v : Value) (ss : List ByteArray) (hl : ss.length ≤ 4398046511104) (hv : LsV B w v (ss.map Value.string)) (hB : B ≤ w.heap.size) :
    Calls Tryz.prog 51 #[v] w fun e w' => e = .returned (.bool (decide ss.Nodup)) ∧ Kept (fun _ => False) w w' := by
  obtain ⟨a, cap, rfl, _⟩ := hv.form
  rw [List.length_map] at hv ⊢
  have h1 := sorted75 (w.alloc (.cells #[.slice a ss.length cap] 22)) w.heap.size B a cap ss hl (by simp) (hv.kept ((Kept.refl _ _).alloc _) hB) (by simp; omega)
  have k1 : Kept (fun _ => False) w (w.alloc (.cells #[.slice a ss.length cap] 22)) := (Kept.refl _ _).alloc _
  clear hv
  have hn : Hid (decide ((Lib.compact ((bytesL ss).mergeSort fun x y => decide (x ≤ y))).length = ss.length) = decide ss.Nodup) := by
    have := sortS_nodup (bytesL ss)
    rw [bytesL_nodup, bytesL_length] at this
    exact this
  have HZ : Hid (((bytesL ss).mergeSort fun x y => decide (x ≤ y)).length = ss.length) := by simp [Hid, bytesL_length]
  generalize ((bytesL ss).mergeSort fun x y => decide (x ≤ y)) = zs at *
  have HC := Lib.compact_length_le zs
  rw [HZ.out] at HC
  go_enter Tryz.func51, Tryz.ntmps51
  go_wp2_with (first
    | (go_at_call 76; refine (vals76 a ss.length cap w).mono ?_; rintro e w0 ⟨rfl, rfl⟩)
    | (go_at_call 75; refine h1.mono ?_; rintro e w2 ⟨sv, rfl, hr2, hk2⟩)
    | (go_at_call 77; refine (compact77 _ _ sv _ zs HZ.out hl hr2).mono ?_; rintro e w3 ⟨a3, c3, rfl, hk3⟩))
  go_ret
  refine ⟨ret_bool ?_, (k1.trans hk2 (fun _ _ f => f)).trans hk3 (fun k hk' e => by have := (ownsRow_lt hr2 e).2; simp at this; omega)⟩
  rw [← hn.out]
  rw [Bool.eq_iff_iff]
  simp
  omega
--INTS
def idL (ss : List Int) : List Int := ss
theorem idL_enc (ss : List Int) : (idL ss).map (Value.int .i64) = ss.map (Value.int .i64) := rfl
theorem idL_length (ss : List Int) : (idL ss).length = ss.length := rfl
theorem idL_nodup (ss : List Int) : decide (idL ss).Nodup = decide ss.Nodup := rfl

set_option maxRecDepth 100000 in
set_option maxHeartbeats 2000000 in
theorem vals106 (F : Fence) (n : Nat) (hF : F.fn 106) (hro : F.round = none) (hn : 1 ≤ n) (l Bs B : Nat) (a : Option Addr) (cap : Nat) (ss : List Int) (hl : ss.length ≤ 17592186044416) (J Jx : List Int → World → Prop)
    (hY : ∀ pre x W, J pre W → pre.length < ss.length → YieldAt F (n - 1) Tryz.prog l #[.int .i64 x] W fun e W' =>
      (e = .returned (.bool true) ∧ J (pre ++ [x]) W' ∧ Below B W W') ∨ (e = .returned (.bool false) ∧ Jx (pre ++ [x]) W'))
    (W : World) (hBs : W.cell? ⟨Bs, 0, none⟩ = some (.slice a ss.length cap)) (hv : LsV B W (.slice a ss.length cap) (ss.map (Value.int .i64))) (h0 : J [] W) :
    CallsIn F n Tryz.prog 106 #[.func (.yield l) #[] #[], .pointer (some ⟨Bs, 0, none⟩)] W fun e W' => (∃ v, e = .returned v) ∧
      ((∃ ys, ys = ss ∧ J ys W') ∨ (∃ pre, True ∧ Jx pre W')) := by
  refine callsIn_of_wp Tryz.func106 rfl hF ?_ hro
  simp only [Tryz.ntmps106, List.size_toArray, List.length_cons, List.length_nil, Nat.reduceAdd, Nat.reduceSub, Array.replicate_succ, Array.replicate_zero, List.push_toArray, List.append_toArray, List.nil_append, List.cons_append]
  have HV : Hid (LsV B W (.slice a ss.length cap) (ss.map (Value.int .i64))) := hv
  clear hv
  gi_wp2
  gi_loopw [7] (fun i wr => ∃ k : Nat, k ≤ ss.length ∧ i = .int .i64 k ∧ J (ss.take k) wr ∧ Below B W wr)
    (fun i _ => ss.length - (intOf i).toNat)
  case atStart => exact ⟨0, Nat.zero_le _, rfl, by simpa using h0, Below.refl _ _⟩
  case round =>
    obtain ⟨k, hk, rfl, hJs, hnx⟩ := hrel
    by_cases hlt : k < ss.length
    · have hlt' : (k : Int) < (ss.length : Int) := by omega
      obtain ⟨b, off, rfl, _, hcx⟩ := (HV.out.below hnx).cell (i := k) (x := .int .i64 ss[k]) (by simp [hlt])
      obtain ⟨fn, tmps, assign, body, hy, hR⟩ := hY _ ss[k] wr hJs (by simp; omega)
      have HT : Hid (ss.take (k + 1) = ss.take k ++ [ss[k]]) := take_step hlt
      generalize ss[k] = x at *
      gi_wp2
      refine hR.mono ?_
      rintro e W3 (⟨rfl, hJ3, hk3⟩ | ⟨rfl, hJx3⟩)
      · gi_wp2
        go_roundw
        case rel => exact ⟨k + 1, by omega, by simp, by rw [HT.out]; exact hJ3, hnx.trans hk3⟩
        case measure => simp [intOf]; omega
      · gi_wp2
        refine bodyPost_ret (results_none rfl _ _ _) rfl ?_
        exact ⟨⟨_, rfl⟩, .inr ⟨_, trivial, hJx3⟩⟩
    · obtain rfl : k = ss.length := by omega
      gi_wp2
      go_end0
      exact ⟨⟨_, rfl⟩, .inl ⟨_, rfl, by simpa using hJs⟩⟩

set_option maxRecDepth 100000 in
set_option maxHeartbeats 1000000 in
theorem vals88 (a : Option Addr) (len cap : Nat) (w : World) :
    Calls Tryz.prog 88 #[.slice a len cap] w fun e w' => e = .returned (.func (.func 106) #[] #[.pointer (some ⟨w.heap.size, 0, none⟩)]) ∧ w' = w.alloc (.cells #[.slice a len cap] 23) := by
  go_enter Tryz.func88, Tryz.ntmps88
  go_wp2
  go_ret
  exact ⟨rfl, rfl⟩

set_option maxRecDepth 100000 in
set_option maxHeartbeats 2000000 in
theorem seq117 (w : World) (Bs B : Nat) (a : Option Addr) (cap : Nat) (ss : List Int) (hl : ss.length ≤ 4398046511104) (hBs : w.cell? ⟨Bs, 0, none⟩ = some (.slice a ss.length cap)) (hv : LsV B w (.slice a ss.length cap) (ss.map (Value.int .i64))) (hB : B ≤ w.heap.size) :
    Calls Tryz.prog 117 #[.slice none 0 0, .func (.func 106) #[] #[.pointer (some ⟨Bs, 0, none⟩)]] w fun e w' => ∃ sv, e = .returned sv ∧ w'.ownsRow w.heap.size 3 1 sv ss.length (ss.map (Value.int .i64)) ∧ Kept (fun _ => False) w w' := by
  refine (callsIn_wide (n := 9)).1 (callsIn_of_wp_marks Tryz.func117 rfl trivial ?_ rfl)
  simp only [Tryz.ntmps117, List.size_toArray, List.length_cons, List.length_nil, Nat.reduceAdd, Nat.reduceSub, Array.replicate_succ, Array.replicate_zero, List.push_toArray, List.append_toArray, List.nil_append, List.cons_append]
  have hBl := lt_of_cell hBs
  obtain ⟨W0, hW0⟩ : ∃ W0, w.alloc (.cells #[.slice none 0 0] 23) = W0 := ⟨_, rfl⟩
  have hs0 : W0.heap.size = w.heap.size + 1 := by rw [← hW0]; simp
  have hx0 : Boxed W0 w.heap.size 23 (.slice none 0 0) := by rw [← hW0]; exact Boxed.new w 23 _
  have hk0 : Kept (fun _ => False) w W0 := by rw [← hW0]; exact (Kept.refl _ _).alloc _
  have hBs0 : W0.cell? ⟨Bs, 0, none⟩ = some (.slice a ss.length cap) := (hk0.cell (p := ⟨Bs, 0, none⟩) hBl (fun f => f)).trans hBs
  have hv0 : LsV B W0 (.slice a ss.length cap) (ss.map (Value.int .i64)) := hv.kept hk0 hB
  clear hv hBs
  gi_wp2
  clear hW0
  obtain ⟨i0, hi, hz0, hz1, hz2⟩ := info_parts info3
  have hsq : SeqStopsK Fence.wide (9 - 1) Tryz.prog 106 #[.pointer (some ⟨Bs, 0, none⟩)] (fun x : Int => #[.int .i64 x]) (Below B) (fun ys => ys = ss) (fun _ => True) ss.length W0 := by
    intro l J Jx W hW _ _ hY hJ0
    exact vals106 Fence.wide (9 - 1) trivial rfl (by decide) l Bs B a cap ss (by omega) J Jx hY W ((hW.cell (p := ⟨Bs, 0, none⟩) (by simp; omega)).trans hBs0) (hv0.below (hW.mono (by omega))) hJ0
  refine wpIn_rangeFunc_ownG (F := Fence.wide) rfl (by decide) (gf := 106) (lb := #[.pointer (some ⟨Bs, 0, none⟩)]) rfl trivial (enters_of Tryz.func106 (by kernel_rfl) rfl) hsq (fun h h' => h.trans h')
    (fun W l o o' hl h1 h2 h3 => ((Kept.refl (fun k => k = l) W).grown (grownBy_putObj' W l o') (fun k _ e => by cases e; rfl)).below (by have := (Array.getElem?_eq_some_iff.1 h1).1; omega) (fun k e => by omega)) (Below.refl _ _) (fun _ => rfl)
    (fun pre W => ∃ sv, Boxed W w.heap.size 23 sv ∧ W.ownsRow w.heap.size 3 1 sv pre.length (pre.map (Value.int .i64)) ∧ Kept (fun _ => False) w W)
    (fun _ _ _ => False) ?own (fun _ _ _ _ _ h _ _ => h) ?zero
    (fun x => { tmps := #[.slice none 0 0, .func (.func 106) #[] #[.pointer (some ⟨Bs, 0, none⟩)], .pointer (some ⟨w.heap.size, 0, none⟩), undef, .slice none 0 0, .int .i64 x, .func (.func 106) #[] #[.pointer (some ⟨Bs, 0, none⟩)], .int .i64 x, undef, undef, undef, undef, undef], defers := [] }) ?assign ?body ?done ?stop
  case own =>
    rintro pre W W' row ⟨sv, hb, hr, hk⟩ hgr hrr
    refine ⟨sv, hb.kept hgr (fun e => ?_), hr.kept hgr ?_, hk.grown hgr (fun k hk0 e => ?_)⟩
    · have := (hrr _ e.symm).1; omega
    · rcases hr.2 with ⟨rfl, _⟩ | ⟨g, cap, cur, rfl, _, hgb, _⟩
      · exact .inl rfl
      · refine .inr fun e' => ?_
        obtain ⟨_, o, ho, hc⟩ := hrr g (by simpa [Value.ownBlock] using e'.symm)
        rw [hgb] at ho; cases ho; cases hc
    · have := (hrr _ e.symm).1; omega
  case zero => exact ⟨_, hx0, ⟨rfl, .inl ⟨rfl, rfl⟩⟩, hk0⟩
  case assign =>
    intro l x W K hK
    gi_wp2
    exact hK
  case body =>
    rintro l pre x W ⟨sv, hb, hr, hk⟩ hlen
    have cb := hb.cell
    have fb := hb.frozen
    have hW0 := hk.size
    have hWb := hb.lt
    have HB : Hid (Boxed W w.heap.size 23 sv) := hb
    clear hb
    gi_wp2_with (gi_at_builtin; go_must (refine wpListIn_append_own _ rfl _ _ 23 rfl w.heap.size 3 i0 _ 1 8 Tryz.underlying23 hi hz0 hz1 hz2 rfl (by decide) sv pre.length _ rfl (hr.alloc _) ⟨W.heap.size, 0, none⟩ 1 1 [.int .i64 x] rfl rfl (cell_one_new _ _ _) (by intro y hy; simp at hy; subst hy; rfl) (by unfold maxLen; omega) (by omega) (by simp; omega) ?_); intro v7 w7 hown7 hgrow7 hloc7; obtain ⟨q1, q2, q3, q4, q5⟩ := Boxed.appended HB.out (by decide) hr (by omega) (Nat.le_refl _) hown7 hgrow7; have c7 := q1.cell; have f7 := q1.frozen; obtain ⟨g7, cp7, rfl⟩ := ownsRow_form hown7)
    refine ⟨q4.from _, q5.mono (by omega), _, q2, by simpa using q3, ?_⟩
    exact hk.trans (Kept.of_below q5) (fun k hk' e => by omega)
  case done =>
    rintro D xs W hD rfl ⟨sv, hb, hr, hk⟩ hK
    have cb := hb.cell
    gi_wp2
    refine ⟨by simp, .inl ⟨_, _, rfl, run_takeDeferred hK, ?_⟩⟩
    refine ⟨_, results_tmp rfl _ _ _, sv, rfl, ownsRow_putObj hr _ hK rfl, hk.grown (grownBy_putObj' _ _ _) (fun k hk' e => by cases e; omega)⟩
  case stop =>
    rintro D c' pre W _ _ h
    exact h.elim

set_option maxRecDepth 100000 in
set_option maxHeartbeats 1000000 in
theorem collect104 (w : World) (Bs B : Nat) (a : Option Addr) (cap : Nat) (ss : List Int) (hl : ss.length ≤ 4398046511104) (hBs : w.cell? ⟨Bs, 0, none⟩ = some (.slice a ss.length cap)) (hv : LsV B w (.slice a ss.length cap) (ss.map (Value.int .i64))) (hB : B ≤ w.heap.size) :
    Calls Tryz.prog 104 #[.func (.func 106) #[] #[.pointer (some ⟨Bs, 0, none⟩)]] w fun e w' => ∃ sv, e = .returned sv ∧ w'.ownsRow w.heap.size 3 1 sv ss.length (ss.map (Value.int .i64)) ∧ Kept (fun _ => False) w w' := by
  go_enter Tryz.func104, Tryz.ntmps104
  have h := seq117 w Bs B a cap ss hl hBs hv hB
  clear hBs hv
  go_wp2_with (go_at_call 117; refine h.mono ?_; rintro e w1 ⟨sv, rfl, hr, hk⟩)
  go_ret
  exact ⟨sv, rfl, hr, hk⟩

theorem sort105 (w : World) (base : Nat) (sv : Value) (ss : List Int) (hl : ss.length ≤ 4398046511104) (hr : w.ownsRow base 3 1 sv ss.length (ss.map (Value.int .i64))) :
    Calls Tryz.prog 105 #[sv] w fun e w' => e = .returned (.tuple #[]) ∧ w'.ownsRow base 3 1 sv ss.length (((idL ss).mergeSort fun x y => decide (x ≤ y)).map (Value.int .i64)) ∧ Kept (fun k => inRow sv k) w w' := by
  rcases hr.2 with ⟨rfl, h0⟩ | ⟨g, cap, cur, rfl, hbase, hb, h1, h2, h3, h4⟩
  · obtain rfl : ss = [] := by simpa using h0
    refine (Tryz.slices_Sort_int_none none 0 w).mono ?_
    rintro e w' ⟨rfl, rfl⟩
    exact ⟨rfl, by simpa [idL] using hr, Kept.refl _ _⟩
  · have hlt := (Array.getElem?_eq_some_iff.1 hb).1
    have h := Tryz.slices_Sort_int g 0 cap (idL ss) w (holds_of_blockI hb (by rw [idL_length, idL_enc]; simpa using h4)) hlt (by rw [idL_length]; omega)
    rw [idL_length] at h
    refine h.mono ?_
    rintro e w' ⟨rfl, n, os, rfl⟩
    refine ⟨rfl, ?_, (Kept.refl _ _).grown (grownBy_sortedI _) (fun k _ e => e)⟩
    have h5 := ownsRow_sortedI (n := n) (os := os) (ss := idL ss) (ts := (idL ss).mergeSort fun x y => decide (x ≤ y)) (by simp) hbase hb (by rw [idL_length]; exact h1) h2 h3
    rw [idL_length] at h5
    exact h5

set_option maxRecDepth 100000 in
set_option maxHeartbeats 1000000 in
theorem sorted87 (w : World) (Bs B : Nat) (a : Option Addr) (cap : Nat) (ss : List Int) (hl : ss.length ≤ 4398046511104) (hBs : w.cell? ⟨Bs, 0, none⟩ = some (.slice a ss.length cap)) (hv : LsV B w (.slice a ss.length cap) (ss.map (Value.int .i64))) (hB : B ≤ w.heap.size) :
    Calls Tryz.prog 87 #[.func (.func 106) #[] #[.pointer (some ⟨Bs, 0, none⟩)]] w fun e w' => ∃ sv, e = .returned sv ∧ w'.ownsRow w.heap.size 3 1 sv ss.length (((idL ss).mergeSort fun x y => decide (x ≤ y)).map (Value.int .i64)) ∧ Kept (fun _ => False) w w' := by
  go_enter Tryz.func87, Tryz.ntmps87
  have h := collect104 w Bs B a cap ss hl hBs hv hB
  clear hBs hv
  go_wp2_with (first
    | (go_at_call 104; refine h.mono ?_; rintro e w1 ⟨sv, rfl, hr, hk⟩)
    | (go_at_call 105; refine (sort105 _ _ sv ss hl hr).mono ?_; rintro e w2 ⟨rfl, hr2, hk2⟩))
  go_ret
  exact ⟨sv, rfl, hr2, hk.trans hk2 (fun k hk' e => by have := (ownsRow_lt hr e).2; omega)⟩

theorem compact89 (w : World) (base : Nat) (sv : Value) (n : Nat) (zs : List Int) (hz : zs.length = n) (hl : n ≤ 4398046511104) (hr : w.ownsRow base 3 1 sv n (zs.map (Value.int .i64))) :
    Calls Tryz.prog 89 #[sv] w fun e w' => ∃ a cp, e = .returned (.slice a (Lib.compact zs).length cp) ∧ Kept (fun k => inRow sv k) w w' := by
  subst hz
  rcases hr.2 with ⟨rfl, h0⟩ | ⟨g, cap, cur, rfl, hbase, hb, h1, h2, h3, h4⟩
  · obtain rfl : zs = [] := by simpa using h0
    refine (Tryz.slices_Compact_int_empty none 0 w).mono ?_
    rintro e w' ⟨rfl, rfl⟩
    exact ⟨none, 0, rfl, Kept.refl _ _⟩
  · refine (Tryz.slices_Compact_int g 0 cap zs w (holds_of_blockI hb (by simpa using h4)) (by omega) h1).mono ?_
    rintro e w' ⟨rfl, q, rfl⟩
    refine ⟨_, _, rfl, ?_⟩
    have := (Kept.refl (fun k => inRow (.slice (some ⟨g, 0, none⟩) zs.length cap) k) w).grown (grownBy_sortedI (w := w) (g := g) (n := q) (os := #[]) (Lib.compact zs ++ List.replicate (zs.length - (Lib.compact zs).length) 0).toArray) (fun k _ e => e)
    simpa using this

set_option maxRecDepth 100000 in
set_option maxHeartbeats 1000000 in
theorem distinct63 (w : World) (B : Nat) (v : Value) (ss : List Int) (hl : ss.length ≤ 4398046511104) (hv : LsV B w v (ss.map (Value.int .i64))) (hB : B ≤ w.heap.size) :
    Calls Tryz.prog 63 #[v] w fun e w' => e = .returned (.bool (decide ss.Nodup)) ∧ Kept (fun _ => False) w w' := by
  obtain ⟨a, cap, rfl, _⟩ := hv.form
  rw [List.length_map] at hv ⊢
  have h1 := sorted87 (w.alloc (.cells #[.slice a ss.length cap] 23)) w.heap.size B a cap ss hl (by simp) (hv.kept ((Kept.refl _ _).alloc _) hB) (by simp; omega)
  have k1 : Kept (fun _ => False) w (w.alloc (.cells #[.slice a ss.length cap] 23)) := (Kept.refl _ _).alloc _
  clear hv
  have hn : Hid (decide ((Lib.compact ((idL ss).mergeSort fun x y => decide (x ≤ y))).length = ss.length) = decide ss.Nodup) := by
    have := sortI_nodup (idL ss)
    rw [idL_nodup, idL_length] at this
    exact this
  have HZ : Hid (((idL ss).mergeSort fun x y => decide (x ≤ y)).length = ss.length) := by simp [Hid, idL_length]
  generalize ((idL ss).mergeSort fun x y => decide (x ≤ y)) = zs at *
  have HC := Lib.compact_length_le zs
  rw [HZ.out] at HC
  go_enter Tryz.func63, Tryz.ntmps63
  go_wp2_with (first
    | (go_at_call 88; refine (vals88 a ss.length cap w).mono ?_; rintro e w0 ⟨rfl, rfl⟩)
    | (go_at_call 87; refine h1.mono ?_; rintro e w2 ⟨sv, rfl, hr2, hk2⟩)
    | (go_at_call 89; refine (compact89 _ _ sv _ zs HZ.out hl hr2).mono ?_; rintro e w3 ⟨a3, c3, rfl, hk3⟩))
  go_ret
  refine ⟨ret_bool ?_, (k1.trans hk2 (fun _ _ f => f)).trans hk3 (fun k hk' e => by have := (ownsRow_lt hr2 e).2; simp at this; omega)⟩
  rw [← hn.out]
  rw [Bool.eq_iff_iff]
  simp
  omega
--END
end Go.Proofs.YtdbpdanocpfboabGreatDoor
