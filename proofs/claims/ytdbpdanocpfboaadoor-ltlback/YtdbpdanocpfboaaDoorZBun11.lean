import Derived.Test.YtdbpdanocpfboaaDoorZBun09
import Derived.Test.YtdbpdanocpfboaaDoorZFm2
import Derived.Test.YtdbpdanocpfboaaDoorZBun01
import Derived.Lib.Builder
import Derived.Lib.AppendStr
import Derived.Lib.UnsafeStr
import Derived.Laws.Externs
import Derived.WalkKit
import Derived.Test.YtdbpdanocpfboaaDoorZPq1
/- The document's own answer: Parts. -/
namespace Go.Proofs.YtdbpdanocpfboaaDoor
open Go.RowKit

mutual
theorem plainT_size : ∀ (t : Tr) (nt : Bool), (plainT t nt).size ≤ 2 * t.size
  | .mk op n [], nt => by
    unfold plainT
    split
    · cases nt <;> simp [leafT, Tr.size, Tr.sizes]
    · split
      · cases nt <;> simp [leafT, Tr.size, Tr.sizes]
      · cases nt <;> simp [Tr.size, Tr.sizes]
  | .mk op n [a], nt => by
    have h1 := plainT_size a nt
    have h2 := plainT_size a (!nt)
    unfold plainT
    simp only [Tr.size, Tr.sizes]
    split
    · omega
    · split
      · simp only [Tr.size, Tr.sizes]; omega
      · split
        · cases nt <;> simp [binT, leafT, Tr.size, Tr.sizes] at * <;> omega
        · cases nt <;> simp [binT, leafT, Tr.size, Tr.sizes] at * <;> omega
  | .mk op n (a :: b :: r), nt => by
    have h1 := plainT_size a nt
    have h2 := plainT_size a (!nt)
    have h3 := plainT_size b nt
    unfold plainT
    simp only [Tr.size, Tr.sizes]
    split
    · cases nt <;> simp [binT, Tr.size, Tr.sizes] at * <;> omega
    · cases nt <;> simp [binT, Tr.size, Tr.sizes] at * <;> omega
end
theorem plainF_size (t : Tr) : (plainF t).size ≤ 2 * t.size := by
  unfold plainF
  split
  · exact plainT_size t false
  · have := t.size_pos
    simp [Tr.size, Tr.sizes]
    omega

set_option maxRecDepth 100000 in
set_option maxHeartbeats 2000000 in
theorem parts22 (w : World) (fv : Value) (t : Tr) (hv : RV w.heap.size w fv t) (hsz : t.size ≤ 67108864) :
    Calls Tryd.prog 22 #[fv] w fun e w' => ∃ v base, e = .returned v ∧ Kept (fun _ => False) w w' ∧ w.heap.size ≤ base ∧ base ≤ w'.heap.size ∧ PL base w' v (partsT (plainF t) []) := by
  obtain ⟨f0, f1, fa, fl, fc, rfl⟩ := hv.agg
  obtain ⟨W0, hW0⟩ : ∃ W0, W0 = w.alloc (.cells #[.int .i64 f0, .int .i64 f1, .slice fa fl fc] 30) := ⟨_, rfl⟩
  have k0 : Kept (fun _ => False) w W0 := by rw [hW0]; exact (Kept.refl _ _).alloc _
  have x0 : Wb3 W0 w.heap.size (.int .i64 f0) (.int .i64 f1) (.slice fa fl fc) := by rw [hW0]; exact Wb3.new w _ _ _ 30
  have HV : Hid (RV W0.heap.size W0 (.agg #[.int .i64 f0, .int .i64 f1, .slice fa fl fc]) t) := RV.kept hv k0
  obtain ⟨_, ⟨x00, x01, x02⟩, _⟩ := x0
  have hps := plainF_size t
  clear hv
  go_enter Tryd.func22, Tryd.ntmps22
  go_upto_region 1 with fail
  rw [← hW0]
  clear hW0
  go_wp2_with (first
    | (go_at_call 23; refine (plain23 _ _ t HV.out (by omega)).mono ?_; rintro e w1 ⟨v', rfl, k1, hF1⟩; have HF1 : Hid (RV w1.heap.size w1 v' (plainF t)) := hF1.rv (fun b hb => hb.2); clear hF1)
    | (go_at_call 56; refine (parts56 268435456 (plainF t) (by omega) (by omega) _ w1.heap.size _ _ [] HF1.out ⟨[], ⟨rfl, .inl ⟨rfl, rfl⟩⟩, rfl⟩ (Nat.le_refl _) (fun u hu => by simp at hu) (by simp; omega)).mono ?_; rintro e w2 ⟨v2, rfl, k2, pl2, _⟩))
  go_ret
  have k2' : Kept (fun _ => False) w1 w2 := k2.mono (fun _ _ e => by cases e)
  exact ⟨v2, w1.heap.size, rfl, (k0.trans k1 (fun _ _ f => f)).trans k2' (fun _ _ f => f), Nat.le_trans k0.size k1.size, k2.size, pl2⟩
end Go.Proofs.YtdbpdanocpfboaaDoor

/- Walks of package ltl: Plain. -/
namespace Go.Proofs.YtdbpdanocpfboaaDoor
open Go.RowKit

theorem well_leaf (op : Int) (h : op = 0 ∨ op = 1) : (leafT op).well := by
  rcases h with rfl | rfl <;> exact ⟨⟨by decide, by decide, rfl, by decide, by decide⟩, trivial⟩
theorem plainT_well : ∀ (t : Tr) (nt : Bool), t.well → (plainT t nt).well
  | .mk op n [], nt, h => by
    rcases kids_len h.1 with ⟨_, hop⟩ | ⟨a, e, _⟩ | ⟨a, b, e, _⟩
    · rcases hop with rfl | rfl | rfl
      · cases nt <;> exact well_leaf _ (by simp)
      · cases nt <;> exact well_leaf _ (by simp)
      · have h2 : (Tr.mk 2 n []).well := h
        cases nt
        · exact h2
        · exact well_un (by simp) h2
    · cases e
    · cases e
  | .mk op n [a], nt, h => by
    have ha : a.well := h.2.1
    rcases kids_len h.1 with ⟨e, _⟩ | ⟨_, e, hop⟩ | ⟨_, _, e, _⟩
    · cases e
    · rcases hop with rfl | rfl | rfl | rfl
      · exact plainT_well a (!nt) ha
      · exact well_un (by simp) (plainT_well a nt ha)
      · have := plainT_well a nt ha
        cases nt <;> exact well_bin (by simp) (well_leaf _ (by simp)) this
      · have := plainT_well a nt ha
        cases nt <;> exact well_bin (by simp) (well_leaf _ (by simp)) this
    · cases e
  | .mk op n (a :: b :: r), nt, h => by
    have ha : a.well := h.2.1
    have hb : b.well := h.2.2.1
    rcases kids_len h.1 with ⟨e, _⟩ | ⟨_, e, _⟩ | ⟨_, _, e, hop⟩
    · cases e
    · cases e
    · have a1 := plainT_well a nt ha
      have a2 := plainT_well a (!nt) ha
      have b1 := plainT_well b nt hb
      rcases hop with rfl | rfl | rfl | rfl | rfl
      all_goals (cases nt <;> first | exact well_bin (by decide) a1 b1 | exact well_bin (by decide) a2 b1)

theorem plain53g (w : World) (B : Nat) (v : Value) (t : Tr) (ht : t.well) (hv : FormV B w v t) (hB : B ≤ w.heap.size) (hT : TabK w) (hTt : TabT w) (hB2 : 3 ≤ B) (hsz : t.size ≤ 16777216) :
    Calls Tryd.prog 53 #[v] w fun e w' => ∃ L bm nv ns i, e = .returned (.tuple #[.pointer (some ⟨L, 0, none⟩), .int .i64 i, .bool true]) ∧ Kept (fun _ => False) w w' ∧ LIn w' w.heap.size L bm nv ns ∧ Den ns i (plainT t false) ∧ Ord ns ∧ ns.length ≤ 8 * t.size ∧ ns.Nodup := by
  refine (plain53 w B v t hv hB hT hTt hB2 hsz).mono ?_
  rintro e w' ⟨hk, ⟨h, _⟩ | ⟨_, L, bm, nv, ns, i, rfl, h1, h2, h3, h4, h5⟩⟩
  · exact absurd ht h
  · exact ⟨L, bm, nv, ns, i, rfl, hk, h1, h2, h3, h4, h5⟩
theorem plain53b (w : World) (B : Nat) (v : Value) (t : Tr) (ht : ¬ t.well) (hv : FormV B w v t) (hB : B ≤ w.heap.size) (hT : TabK w) (hTt : TabT w) (hB2 : 3 ≤ B) (hsz : t.size ≤ 16777216) :
    Calls Tryd.prog 53 #[v] w fun e w' => e = .returned (.tuple #[.pointer none, .int .i64 0, .bool false]) ∧ Kept (fun _ => False) w w' := by
  refine (plain53 w B v t hv hB hT hTt hB2 hsz).mono ?_
  rintro e w' ⟨hk, ⟨_, rfl⟩ | ⟨h, _⟩⟩
  · exact ⟨rfl, hk⟩
  · exact absurd h ht
theorem FVS.agg {S : Nat → Prop} {w : World} {v : Value} {t : Tr} (h : FVS S w v t) : ∃ op n a l c, v = .agg #[.int .i64 op, .int .i64 n, .slice a l c] := by
  obtain ⟨op, n, kids⟩ := t
  obtain ⟨ka, kb, ko, kc, e, _⟩ := h
  exact ⟨_, _, _, _, _, e⟩
theorem FVS.keep {S S' : Nat → Prop} {w w' : World} {v : Value} {t : Tr} (h : FVS S w v t) (hs : ∀ b, S b → S' b) (hb : ∀ b, S b → w'.heap[b]? = w.heap[b]?) : FVS S' w' v t := by
  cases t with
  | mk op n kids =>
    obtain ⟨ka, kb, ko, kc, e, h1, h2⟩ := h
    exact ⟨ka, kb, ko, kc, e, h1, FsS.keep hs hb h2⟩
theorem FormV.agg {B : Nat} {w : World} {v : Value} {t : Tr} (h : FormV B w v t) : ∃ op n a l c, v = .agg #[.int .i64 op, .int .i64 n, .slice a l c] := by
  obtain ⟨op, n, kids⟩ := t
  obtain ⟨ka, kb, ko, kc, e, _⟩ := h
  exact ⟨_, _, _, _, _, e⟩
theorem FVS.leaf (S : Nat → Prop) (w : World) (op n : Int) : FVS S w (.agg #[.int .i64 op, .int .i64 n, .slice none 0 0]) (.mk op n []) := ⟨none, 0, 0, 0, rfl, by simp, trivial⟩

set_option maxRecDepth 100000 in
set_option maxHeartbeats 4000000 in
theorem plain20 (w : World) (B : Nat) (v : Value) (t : Tr) (hv : FormV B w v t) (hB : B ≤ w.heap.size) (hT : TabK w) (hTt : TabT w) (hB2 : 3 ≤ B) (hsz : t.size ≤ 16777216) :
    Calls Tryd.prog 20 #[v] w fun e w' => ∃ v', e = .returned v' ∧ Kept (fun _ => False) w w' ∧ FVS (fun b => w.heap.size ≤ b ∧ b < w'.heap.size) w' v' (plainF t) := by
  obtain ⟨op, n, ka, kl, kc, rfl⟩ := hv.agg
  obtain ⟨w1, hw1⟩ : ∃ w1, w1 = (w.alloc (.cells #[.int .i64 op, .int .i64 n, .slice ka kl kc] 24)).alloc (.cells #[.int .i64 0, .int .i64 0, .slice none 0 0] 24) := ⟨_, rfl⟩
  have k1 : Kept (fun _ => False) w w1 := by rw [hw1]; exact ((Kept.refl _ _).alloc _).alloc _
  have hh : w1.heap = (w.heap.push (.cells #[.int .i64 op, .int .i64 n, .slice ka kl kc] 24)).push (.cells #[.int .i64 0, .int .i64 0, .slice none 0 0] 24) := by rw [hw1]; rfl
  have g0 : w1.heap[w.heap.size]? = some (.cells #[.int .i64 op, .int .i64 n, .slice ka kl kc] 24 (0, 0)) := by rw [hh]; exact (push2 _ _ _).1
  have g1 : w1.heap[w.heap.size + 1]? = some (.cells #[.int .i64 0, .int .i64 0, .slice none 0 0] 24 (0, 0)) := by rw [hh]; exact (push2 _ _ _).2
  have c0 : w1.cell? ⟨w.heap.size, 0, none⟩ = some (.int .i64 op) := by simp [World.cell?, g0]
  have c1 : w1.cell? ⟨w.heap.size, 1, none⟩ = some (.int .i64 n) := by simp [World.cell?, g0]
  have c2 : w1.cell? ⟨w.heap.size, 2, none⟩ = some (.slice ka kl kc) := by simp [World.cell?, g0]
  have hr : Wb3 w1 (w.heap.size + 1) (.int .i64 0) (.int .i64 0) (.slice none 0 0) := ⟨by have := (Array.getElem?_eq_some_iff.1 g1).1; omega, ⟨by simp [World.cell?, g1], by simp [World.cell?, g1], by simp [World.cell?, g1]⟩, by simp [World.frozen?, g1], by simp [World.frozen?, g1], by simp [World.frozen?, g1]⟩
  have HV1 : Hid (FormV B w1 (.agg #[.int .i64 op, .int .i64 n, .slice ka kl kc]) t) := hv.below (k1.below hB (fun _ f => f.elim))
  have HT1 : Hid (TabK w1) := hT.kept k1 (fun f => f)
  have HTT1 : Hid (TabT w1) := hTt.kept k1 (fun f => f)
  have hB1 : B ≤ w1.heap.size := Nat.le_trans hB k1.size
  clear hv hT hTt g0 g1 hh
  by_cases ht : t.well
  · have HW : Hid t.well := ht
    have HP : Hid (plainF t = plainT t false) := by rw [Hid, plainF, if_pos ((wellB_iff t).2 ht)]
    go_enter Tryd.func20, Tryd.ntmps20
    go_upto_region 1 with fail
    rw [← hw1]
    clear hw1 ht
    go_upto_region 2 with (go_at_call 53; refine (plain53g _ B _ t HW.out HV1.out hB1 HT1.out HTT1.out hB2 hsz).mono ?_; rintro e w2 ⟨L, bm, nv, ns, i, rfl, k2, hL, hd, ho, hl, _⟩)
    have hr2 := hr.kept k2
    have HR : Hid (LRead w2 L ns) := hL.read
    have HO : Hid (Ord ns) := ho
    have HD : Hid (Den ns i (plainT t false)) := hd
    obtain ⟨j, rfl⟩ : ∃ j : Nat, i = (j : Int) := ⟨i.toNat, by have := hd.lt; omega⟩
    have hjn : j < ns.length := by have := hd.lt; omega
    have hnl : ns.length ≤ 536870912 := by omega
    have HPW : Hid ((plainT t false).well) := plainT_well t false HW.out
    have hps := plainT_size t false
    clear hL hd ho c0 c1 c2 HV1 HT1 HTT1 hB1
    obtain ⟨Z, hZ⟩ : ∃ Z, Z = capS (plainT t false).size := ⟨_, rfl⟩
    have hz : Z ≤ 2147483647 := by rw [hZ]; unfold capS; split <;> omega
    have HZ : Hid _ := hZ
    clear hZ
    have hjni : (j : Int) < (ns.length : Int) := by omega
    go_upto_region 4 with (go_at_call 51; refine (sizes51 _ L ns HR.out HO.out hnl).mono ?_; rintro e w3 ⟨sb, rfl, hs⟩; have hc := hs.done j (plainT t false) hjn HPW.out HD.out; rw [← HZ.out] at hc; have k3 : Kept (fun _ => False) w2 w3 := hs.kept; clear hs)
    have hr3 := hr2.kept k3
    have HR3 : Hid (LRead w3 L ns) := HR.out.kept k3
    have k03 : Kept (fun _ => False) w w3 := (k1.trans k2 (fun _ _ f => f)).trans k3 (fun _ _ f => f)
    have hb3 : w.heap.size + 1 < w3.heap.size := hr3.1
    clear hc hr2 HR
    go_wp2_with (go_at_call 54; refine (form54 _ L ns _ (plainT t false) HR3.out HO.out HD.out HPW.out (by omega)).mono ?_; rintro e w4 ⟨v', rfl, k4, hF⟩; obtain ⟨oC, nC, aC, lC, cC, rfl⟩ := hF.agg; obtain ⟨_, ⟨r40, r41, r42⟩, r43, r44, r45⟩ := hr3.kept k4; have HF : Hid (FVS (fun b => w3.heap.size ≤ b ∧ b < w4.heap.size) w4 (.agg #[.int .i64 oC, .int .i64 nC, .slice aC lC cC]) (plainT t false)) := hF; clear hF)
    refine bodyPost_ret (v := .agg #[.int .i64 oC, .int .i64 nC, .slice aC lC cC]) (by simp [results, Tryd.results20, go_sem, r40, r41, r42]) rfl ⟨_, rfl, kept3 (k03.trans k4 (fun _ _ f => f)) (by omega) _ _ _, ?_⟩
    rw [HP.out]
    refine HF.out.keep (fun b hb => ⟨Nat.le_trans k03.size hb.1, by simpa [World.setCell] using hb.2⟩) (fun b hb => ?_)
    have hne : b ≠ w.heap.size + 1 := by omega
    rw [Below.heap_setCell _ _ _ _ hne, Below.heap_setCell _ _ _ _ hne, Below.heap_setCell _ _ _ _ hne]
  · have HN : Hid (¬ t.well) := ht
    have HP : Hid (plainF t = .mk 1 0 []) := by rw [Hid, plainF, if_neg (fun h => ht ((wellB_iff t).1 h))]
    go_enter Tryd.func20, Tryd.ntmps20
    go_upto_region 1 with fail
    rw [← hw1]
    clear hw1 ht
    go_upto_region 2 with (go_at_call 53; refine (plain53b _ B _ t HN.out HV1.out hB1 HT1.out HTT1.out hB2 hsz).mono ?_; rintro e w2 ⟨rfl, k2⟩)
    obtain ⟨_, ⟨r40, r41, r42⟩, r43, r44, r45⟩ := hr.kept k2
    go_wp2
    refine bodyPost_ret (v := .agg #[.int .i64 1, .int .i64 0, .slice none 0 0]) (by simp [results, Tryd.results20, go_sem, r40, r41, r42]) rfl ⟨_, rfl, kept3 (k1.trans k2 (fun _ _ f => f)) (by omega) _ _ _, ?_⟩
    rw [HP.out]
    exact FVS.leaf _ _ _ _
end Go.Proofs.YtdbpdanocpfboaaDoor

/- A strings.Builder of the call's own: what is written to it. -/
namespace Go.Proofs.YtdbpdanocpfboaaDoor
open Go.RowKit

theorem und129 : Tryd.prog.underlying 129 = some (.pointer 131) := by kernel_rfl
theorem und192 : Tryd.prog.underlying 192 = some .unsafePointer := by kernel_rfl
theorem size131 : (Tryd.prog.info? 131).map (·.size) = some 2 := by kernel_rfl
theorem lies131 : liesAt Tryd.prog Tryd.prog.depth 131 (2 / Tryd.prog.cellsOf 131) 0 131 1 = true := by kernel_rfl
theorem info5 : (Tryd.prog.info? 5).map (fun i => (i.zero, i.size, i.bytes)) = some (some (.int .u8 0), 1, 1) := by kernel_rfl
theorem cells5 : Tryd.prog.cellsOf 5 = 1 := by kernel_rfl
theorem und183 : Tryd.prog.underlying 183 = some (.pointer 5) := by kernel_rfl
theorem und87 : Tryd.prog.underlying 87 = some (.slice 5) := by kernel_rfl
theorem und9 : Tryd.prog.underlying 9 = some .string := by kernel_rfl

set_option maxHeartbeats 1000000 in
set_option maxRecDepth 100000 in
theorem copy123_used (b : Nat) (w : World) (h0 : w.cell? ⟨b, 0, none⟩ = some (.pointer (some ⟨b, 0, none⟩))) :
    Calls Tryd.prog 123 #[.pointer (some ⟨b, 0, none⟩)] w fun e w' => e = .returned (.tuple #[]) ∧ w' = w := by
  obtain ⟨j, hj, _⟩ := Option.map_eq_some_iff.1 size131
  go_enter Tryd.func123, Tryd.ntmps123
  go_wp2
  rw [Lib.run_neq_ptr_same w _ und129 hj]
  go_wp2
  go_end0
  exact ⟨rfl, rfl⟩

set_option maxHeartbeats 1000000 in
set_option maxRecDepth 100000 in
theorem copy123_fresh (b : Nat) (w : World) (h0 : w.cell? ⟨b, 0, none⟩ = some (.pointer none)) (hsh : w.shape? b = some (131, 2)) (hfz : w.frozen? ⟨b, 0, none⟩ = false) :
    Calls Tryd.prog 123 #[.pointer (some ⟨b, 0, none⟩)] w fun e w' => e = .returned (.tuple #[]) ∧ w' = w.setCell ⟨b, 0, none⟩ (.pointer (some ⟨b, 0, none⟩)) := by
  obtain ⟨j, hj, hjs⟩ := Option.map_eq_some_iff.1 size131
  go_enter Tryd.func123, Tryd.ntmps123
  go_wp2
  rw [Lib.run_to_unsafe w ⟨b, 0, none⟩ und129 und192 hj (by rw [hjs]; decide) hsh (Nat.zero_lt_succ 1)]
  simp only [Result.andThen]
  rw [Oper.upon_value]
  go_wp2
  rw [run_callFunc_extern Tryd.func133 (by kernel_rfl) (by kernel_rfl) (by kernel_rfl) (e := Extern.AbiNoEscape.same) (by kernel_rfl)]
  rw [Lib.run_noEscape]
  simp only [Result.andThen]
  rw [Oper.upon_value]
  go_wp2
  rw [Lib.run_from_unsafe w ⟨b, 0, none⟩ und192 und129 hj hsh lies131]
  simp only [Result.andThen]
  rw [Oper.upon_value]
  go_wp2
  go_end0
  exact ⟨rfl, rfl⟩

/-- what a write to a Builder may change: its block, and rows of bytes from B on -/
def BSet (B b : Nat) (w : World) (k : Nat) : Prop := k = b ∨ (B ≤ k ∧ ∃ cs, w.heap[k]? = some (.cells cs 5 (0, 0)))
theorem copy123 (B b : Nat) (bs : List Value) (w : World) (h : Lib.IsBuilder 131 5 B b bs w) :
    Calls Tryd.prog 123 #[.pointer (some ⟨b, 0, none⟩)] w fun e w' => e = .returned (.tuple #[]) ∧ Lib.BuilderAt 131 5 B b (.pointer (some ⟨b, 0, none⟩)) bs w' ∧ Kept (fun k => k = b) w w' := by
  rcases h with h | h
  · refine (copy123_fresh b w h.cell0 h.shape h.frozen0).mono ?_
    rintro e w' ⟨rfl, rfl⟩
    exact ⟨rfl, h.used _, (Kept.refl (fun k => k = b) _).setCell (p := ⟨b, 0, none⟩) (fun _ => rfl) _⟩
  · refine (copy123_used b w h.cell0).mono ?_
    rintro e w' ⟨rfl, rfl⟩
    exact ⟨rfl, h, Kept.refl _ _⟩
theorem bset_own {B b : Nat} {w w1 : World} {v : Value} {n : Nat} {xs : List Value} (k1 : Kept (fun k => k = b) w w1) (hown : w1.ownsRow B 5 1 v n xs) (hne : v.ownBlock ≠ some b) : ∀ k, k < w.heap.size → some k = v.ownBlock → BSet B b w k := by
  intro k hk e
  rcases hown.2 with ⟨rfl, _⟩ | ⟨g, cap, cur, rfl, hg, hh, _⟩
  · simp [Value.ownBlock] at e
  · have eg : k = g := by simpa [Value.ownBlock] using e
    subst eg
    have hkb : ¬ k = b := fun e => hne (by rw [← e]; rfl)
    exact .inr ⟨hg, cur, (k1.block k hk hkb).symm.trans hh⟩

set_option maxHeartbeats 2000000 in
set_option maxRecDepth 100000 in
theorem writeByte88 (B b : Nat) (bs : List Value) (c : Int) (w : World) (h : Lib.IsBuilder 131 5 B b bs w) (hlen : bs.length + 1 ≤ 140737488355328) (hBw : B ≤ w.heap.size) :
    Calls Tryd.prog 88 #[.pointer (some ⟨b, 0, none⟩), .int .u8 c] w fun e w' => e = .returned .nilIface ∧ Lib.BuilderAt 131 5 B b (.pointer (some ⟨b, 0, none⟩)) (bs ++ [.int .u8 c]) w' ∧ Kept (BSet B b w) w w' := by
  obtain ⟨i0, hi, hz0, hz1, hz2⟩ := info_parts info5
  go_enter Tryd.func88, Tryd.ntmps88
  go_wp2_with (go_at_call 123; refine (copy123 B b bs _ h).mono ?_)
  rintro e w1 ⟨rfl, h1, hb1⟩
  obtain ⟨hB, v, hbk, hown, hne⟩ := h1
  have c0 : w1.cell? ⟨b, 0, none⟩ = some (.pointer (some ⟨b, 0, none⟩)) := by rw [Lib.cell_of_heap hbk]; rfl
  have c1 : w1.cell? ⟨b, 1, none⟩ = some v := by rw [Lib.cell_of_heap hbk]; rfl
  go_wp2_with (at_builtin; refine wpList_append_own _ rfl _ _ 87 rfl B 5 i0 (.int .u8 0) 1 1 und87 hi hz0 hz1 hz2 rfl (by decide) _ _ _ rfl (hown.alloc _) ⟨w1.heap.size, 0, none⟩ 1 1 [.int .u8 c] rfl rfl ?c1 ?c2 ?c3 ?c4 ?c5 ?_)
  case c1 =>
    intro j u hj
    match j, hj with
    | 0, hj => simp at hj; subst hj; simp [Addr.add]
  case c2 => intro u hu; simp at hu; subst hu; rfl
  case c3 => unfold maxLen; omega
  case c4 => omega
  case c5 => have := hb1.size; simp; omega
  intro v' w2 hown' hgrow _
  have hlt : b < w1.heap.size := by
    rcases Nat.lt_or_ge b w1.heap.size with h' | h'
    · exact h'
    · simp [Array.getElem?_eq_none h'] at hbk
  have hb2 : w2.heap[b]? = some (.cells #[.pointer (some ⟨b, 0, none⟩), v] 131 (0, 0)) := by
    rw [hgrow.block b (by simp; omega) (fun e => hne e.symm), Lib.alloc_old w1 _ b hlt]
    exact hbk
  have d0 : w2.cell? ⟨b, 0, none⟩ = some (.pointer (some ⟨b, 0, none⟩)) := by rw [Lib.cell_of_heap hb2]; rfl
  have d1 : w2.cell? ⟨b, 1, none⟩ = some v := by rw [Lib.cell_of_heap hb2]; rfl
  have f1 : w2.frozen? ⟨b, 1, none⟩ = false := Lib.frozen_of_heap hb2 1
  obtain ⟨g, cap, rfl⟩ : ∃ g cap, v' = .slice (some ⟨g, 0, none⟩) (bs.length + 1) cap := by
    rcases hown'.2 with ⟨_, h0⟩ | ⟨g, cap, cur, hv, _⟩
    · omega
    · exact ⟨g, cap, hv⟩
  go_wp2
  go_ret
  refine ⟨rfl, ?_, ?_⟩
  · exact Lib.BuilderAt.put (T := 131) (e := 5) hB hb2 (bs' := bs ++ [.int .u8 c]) (by simpa using hown') (by decide)
  · exact (((hb1.mono (T := BSet B b w) (fun k _ e => .inl e)).alloc _).grown hgrow (bset_own hb1 hown hne)).setCell (p := ⟨b, 1, none⟩) (fun _ => .inl rfl) _

set_option maxHeartbeats 2000000 in
set_option maxRecDepth 100000 in
theorem writeString87 (B b : Nat) (bs : List Value) (s : ByteArray) (w : World) (h : Lib.IsBuilder 131 5 B b bs w) (hlen : bs.length + s.size ≤ 140737488355328) (hBw : B ≤ w.heap.size) :
    Calls Tryd.prog 87 #[.pointer (some ⟨b, 0, none⟩), .string s] w fun e w' => e = .returned (.tuple #[.int .i64 s.size, .nilIface]) ∧ Lib.BuilderAt 131 5 B b (.pointer (some ⟨b, 0, none⟩)) (bs ++ Lib.strCells s) w' ∧ Kept (BSet B b w) w w' := by
  obtain ⟨i0, hi, hz0, hz1, hz2⟩ := info_parts info5
  go_enter Tryd.func87, Tryd.ntmps87
  go_wp2_with (go_at_call 123; refine (copy123 B b bs _ h).mono ?_)
  rintro e w1 ⟨rfl, h1, hb1⟩
  obtain ⟨hB, v, hbk, hown, hne⟩ := h1
  have c0 : w1.cell? ⟨b, 0, none⟩ = some (.pointer (some ⟨b, 0, none⟩)) := by rw [Lib.cell_of_heap hbk]; rfl
  have c1 : w1.cell? ⟨b, 1, none⟩ = some v := by rw [Lib.cell_of_heap hbk]; rfl
  go_wp2_with (at_builtin; refine Lib.wpList_append_own_string _ rfl _ _ 87 9 rfl B 5 i0 und87 und9 hi hz0 hz1 hz2 _ _ _ rfl hown s rfl ?c3 ?c4 ?c5 ?_)
  case c3 => unfold maxLen; omega
  case c4 => omega
  case c5 => have := hb1.size; omega
  intro v' w2 hown' hgrow _
  have hlt : b < w1.heap.size := by
    rcases Nat.lt_or_ge b w1.heap.size with h' | h'
    · exact h'
    · simp [Array.getElem?_eq_none h'] at hbk
  have hb2 : w2.heap[b]? = some (.cells #[.pointer (some ⟨b, 0, none⟩), v] 131 (0, 0)) := by
    rw [hgrow.block b hlt (fun e => hne e.symm)]
    exact hbk
  have d0 : w2.cell? ⟨b, 0, none⟩ = some (.pointer (some ⟨b, 0, none⟩)) := by rw [Lib.cell_of_heap hb2]; rfl
  have d1 : w2.cell? ⟨b, 1, none⟩ = some v := by rw [Lib.cell_of_heap hb2]; rfl
  have f1 : w2.frozen? ⟨b, 1, none⟩ = false := Lib.frozen_of_heap hb2 1
  obtain ⟨ao, n', cap, rfl⟩ : ∃ ao n' cap, v' = .slice ao n' cap := by
    rcases hown'.2 with ⟨hv, _⟩ | ⟨g, cap, cur, hv, _⟩
    · exact ⟨_, _, _, hv⟩
    · exact ⟨_, _, _, hv⟩
  go_wp2
  go_ret2
  refine ⟨rfl, ?_, ?_⟩
  · exact Lib.BuilderAt.put (T := 131) (e := 5) hB hb2 (bs' := bs ++ Lib.strCells s) (by simpa [Lib.strCells_length] using hown') (by decide)
  · exact ((hb1.mono (T := BSet B b w) (fun k _ e => .inl e)).grown hgrow (bset_own hb1 hown hne)).setCell (p := ⟨b, 1, none⟩) (fun _ => .inl rfl) _

set_option maxHeartbeats 1000000 in
set_option maxRecDepth 100000 in
theorem string89 (B b : Nat) (l : List UInt8) (w : World) (h : Lib.IsBuilder 131 5 B b (Lib.byteCells l) w) (h0 : l ≠ []) :
    Calls Tryd.prog 89 #[.pointer (some ⟨b, 0, none⟩)] w fun e w' => e = .returned (.string ⟨l.toArray⟩) ∧ Below B w w' := by
  obtain ⟨p, hB, v, hbk, hown, hne⟩ : ∃ p, Lib.BuilderAt 131 5 B b p (Lib.byteCells l) w := by
    rcases h with h | h
    · exact ⟨_, h⟩
    · exact ⟨_, h⟩
  have hl0 : l.length ≠ 0 := by simpa using h0
  rw [Lib.byteCells_length] at hown
  obtain ⟨g, cap, cur, rfl, hbg, hg, hnc, hcm, hcs, htake⟩ : ∃ g cap cur, v = .slice (some ⟨g, 0, none⟩) l.length cap ∧ B ≤ g ∧ w.heap[g]? = some (.cells cur 5 (0, 0)) ∧ l.length ≤ cap ∧ cap ≤ maxLen ∧ cur.size = cap * 1 ∧ cur.toList.take (l.length * 1) = Lib.byteCells l := by
    rcases hown.2 with ⟨_, hz⟩ | ⟨g, cap, cur, hv, r⟩
    · exact absurd hz hl0
    · exact ⟨g, cap, cur, hv, r⟩
  have c1 : w.drew.cell? ⟨b, 1, none⟩ = some (.slice (some ⟨g, 0, none⟩) l.length cap) := by
    have : w.drew.heap[b]? = some (.cells #[p, .slice (some ⟨g, 0, none⟩) l.length cap] 131 (0, 0)) := hbk
    rw [Lib.cell_of_heap this]; rfl
  have hSD : (Builtin.unsafeSliceData_ #[87] 183 #[.slice (some ⟨g, 0, none⟩) l.length cap]).run Tryd.prog w.drew = .ok (.pointer (some ⟨g, 0, none⟩)) w.drew :=
    Lib.run_unsafeSliceData_row _ _ _ _ _ _ (by omega)
  have hUS : (Builtin.unsafeString_ #[183, 3] 9 #[.pointer (some ⟨g, 0, none⟩), .int .i64 l.length]).run Tryd.prog w.drew = .ok (.string ⟨l.toArray⟩) (w.drew.freeze ⟨g, 0, none⟩ l.length) := by
    refine Lib.run_unsafeString_row w.drew 183 3 9 5 und183 cells5 g cur.size (by have hg' : w.drew.heap[g]? = some (.cells cur 5 (0, 0)) := hg; simp [World.shape?, hg']) l h0 (by omega) (by unfold maxLen at hcm; omega) ?_
    intro j x hx
    have := hown.cells (g := g) rfl j (.int .u8 x.toNat) (by simp [Lib.byteCells, hx])
    exact this
  go_enter Tryd.func89, Tryd.ntmps89
  go_wp2
  go_region
  all_goals (go_wp2; go_ret; exact ⟨rfl, Lib.below_freeze (Below.drew (Below.refl B w)) (p := ⟨g, 0, none⟩) hbg _⟩)
end Go.Proofs.YtdbpdanocpfboaaDoor

/- What is yet to be written: the memory of ltl.write. -/
namespace Go.Proofs.YtdbpdanocpfboaaDoor
open Go.RowKit

/-- a piece: a sign, or, if it is empty, a Node that is the tree t -/
structure Pc where
  sg : ByteArray
  id : Int
  t : Tr
def Pc.cells (k : Pc) : List Value := [.string k.sg, .int .i64 k.id]
def flatP (l : List Pc) : List Value := l.flatMap Pc.cells
def Pc.txt (k : Pc) : List UInt8 := if k.sg.size = 0 then printT k.t else k.sg.data.toList
def txtP (l : List Pc) : List UInt8 := l.flatMap Pc.txt
def Pc.ok (ns : List Nd) (k : Pc) : Prop := k.sg.size = 0 → Den ns k.id k.t ∧ k.t.well
def Pc.wt (k : Pc) : Nat := if k.sg.size = 0 then 4 * k.t.size else 1
def sumP (l : List Pc) : Nat := (l.map Pc.wt).sum
theorem flatP_length (l : List Pc) : (flatP l).length = l.length * 2 := by
  induction l with
  | nil => rfl
  | cons x r ih =>
    have e : flatP (x :: r) = x.cells ++ flatP r := by simp [flatP]
    rw [e, List.length_append, ih, List.length_cons]
    simp [Pc.cells]
    omega
theorem flatP_append (a b : List Pc) : flatP (a ++ b) = flatP a ++ flatP b := by simp [flatP]
theorem Pc.wt_pos (k : Pc) : 0 < k.wt := by
  unfold Pc.wt
  split
  · have := k.t.size_pos; omega
  · omega
theorem sumP_len : ∀ (l : List Pc), l.length ≤ sumP l
  | [] => by simp
  | k :: r => by
    have h1 := sumP_len r
    have h2 := k.wt_pos
    simp only [sumP, List.map_cons, List.sum_cons, List.length_cons] at *
    omega
theorem isB_of {W W' : World} {B b : Nat} {bs : List Value} (h : Lib.IsBuilder 131 5 B b bs W) (hb : W'.heap[b]? = W.heap[b]?) (hr : ∀ k cs, B ≤ k → W.heap[k]? = some (.cells cs 5 (0, 0)) → W'.heap[k]? = W.heap[k]?) : Lib.IsBuilder 131 5 B b bs W' := by
  have key : ∀ p, Lib.BuilderAt 131 5 B b p bs W → Lib.BuilderAt 131 5 B b p bs W' := by
    rintro p ⟨h1, v, h2, h3, h4⟩
    refine ⟨h1, v, hb.trans h2, ownsRow_of_block h3 (fun k hk => ?_), h4⟩
    rcases h3.2 with ⟨rfl, _⟩ | ⟨g, cap, cur, rfl, hg, hh, _⟩
    · simp [Value.ownBlock] at hk
    · have : k = g := by simpa [Value.ownBlock] using hk
      subst this
      exact hr k cur hg hh
  rcases h with h | h
  · exact .inl (key _ h)
  · exact .inr (key _ h)
theorem isB_blk {W : World} {B b : Nat} {bs : List Value} (h : Lib.IsBuilder 131 5 B b bs W) : B ≤ b ∧ ∃ cs, W.heap[b]? = some (.cells cs 131 (0, 0)) := by
  rcases h with ⟨h1, v, h2, _⟩ | ⟨h1, v, h2, _⟩ <;> exact ⟨h1, _, h2⟩
/-- what holds between two rounds -/
structure WI (ns : List Nd) (w0 : World) (b : Nat) (st : List Pc) (out : List UInt8) (sv : Value) (W : World) : Prop where
  kept : Kept (fun _ => False) w0 W
  own : W.ownsRow w0.heap.size 133 2 sv st.length (flatP st.reverse)
  bld : Lib.IsBuilder 131 5 w0.heap.size b (Lib.byteCells out) W
  ok : ∀ k ∈ st, k.ok ns
section
variable {ns : List Nd} {w0 : World} {b : Nat} {st : List Pc} {out : List UInt8} {sv : Value} {W W' : World}
theorem WI.lt (h : WI ns w0 b st out sv W) : b < W.heap.size := by
  obtain ⟨_, cs, hh⟩ := isB_blk h.bld
  exact (Array.getElem?_eq_some_iff.1 hh).1
theorem WI.keep (h : WI ns w0 b st out sv W) (hk : Kept (fun _ => False) W W') : WI ns w0 b st out sv W' :=
  ⟨h.kept.trans hk (fun _ _ f => f), ownsRow_of_block h.own (fun k hk' => hk.block k (ownsRow_lt h.own hk').1 (fun f => f)), isB_of h.bld (hk.block b h.lt (fun f => f)) (fun k _ _ hh => hk.block k (Array.getElem?_eq_some_iff.1 hh).1 (fun f => f)), h.ok⟩
theorem WI.own_ty (h : WI ns w0 b st out sv W) {k : Nat} (hk : some k = sv.ownBlock) : ∃ cs, W.heap[k]? = some (.cells cs 133 (0, 0)) := by
  rcases h.own.2 with ⟨rfl, _⟩ | ⟨g, cap, cur, rfl, hg, hh, _⟩
  · simp [Value.ownBlock] at hk
  · have : k = g := by simpa [Value.ownBlock] using hk
    subst this
    exact ⟨_, hh⟩
/-- a write to the Builder -/
theorem WI.wrote (h : WI ns w0 b st out sv W) {out' : List UInt8} (hb : Lib.BuilderAt 131 5 w0.heap.size b (.pointer (some ⟨b, 0, none⟩)) (Lib.byteCells out') W') (hk : Kept (BSet w0.heap.size b W) W W') : WI ns w0 b st out' sv W' := by
  obtain ⟨hB, cs, hh⟩ := isB_blk h.bld
  refine ⟨h.kept.trans hk (fun k hk' hs => ?_), ownsRow_of_block h.own (fun k hk' => hk.block k (ownsRow_lt h.own hk').1 (fun hs => ?_)), .inr hb, h.ok⟩
  · rcases hs with rfl | ⟨hs, _⟩ <;> omega
  · obtain ⟨c2, h2⟩ := h.own_ty hk'
    rcases hs with rfl | ⟨_, c3, h3⟩
    · rw [hh] at h2; cases h2
    · rw [h3] at h2; cases h2
theorem WI.pop {k : Pc} {g c : Nat} (h : WI ns w0 b (k :: st) out (.slice (some ⟨g, 0, none⟩) (st.length + 1) c) W) : WI ns w0 b st out (.slice (some ⟨g, 0, none⟩) st.length c) W := by
  refine ⟨h.kept, ?_, h.bld, fun x hx => h.ok x (List.mem_cons_of_mem _ hx)⟩
  have := ownsRow_take h.own (n' := st.length) (by simp)
  have e : (flatP (k :: st).reverse).take (st.length * 2) = flatP st.reverse := by
    rw [List.reverse_cons, flatP_append, List.take_left' (by rw [flatP_length, List.length_reverse])]
  rwa [e] at this
theorem WI.top {k : Pc} {g c : Nat} (h : WI ns w0 b (k :: st) out (.slice (some ⟨g, 0, none⟩) (st.length + 1) c) W) : W.cell? ⟨g, st.length * 2, none⟩ = some (.string k.sg) ∧ W.cell? ⟨g, st.length * 2 + 1, none⟩ = some (.int .i64 k.id) := by
  obtain ⟨_, _, hc⟩ := own_cells h.own
  have e : flatP (k :: st).reverse = flatP st.reverse ++ k.cells := by rw [List.reverse_cons, flatP_append]; simp [flatP]
  have hl : (flatP st.reverse).length = st.length * 2 := by rw [flatP_length, List.length_reverse]
  have c0 := hc (st.length * 2) (.string k.sg) (by rw [e, List.getElem?_append_right (by omega), hl]; simp [Pc.cells])
  have c1 := hc (st.length * 2 + 1) (.int .i64 k.id) (by rw [e, List.getElem?_append_right (by omega), hl]; simp [Pc.cells])
  rw [Nat.zero_add] at c0 c1
  exact ⟨c0, c1⟩
/-- pieces are laid on top -/
theorem WI.push (h : WI ns w0 b st out sv W) {sv' : Value} {l : List Pc} (hl : ∀ k ∈ l, k.ok ns) (hr : W'.ownsRow w0.heap.size 133 2 sv' (st.length + l.length) (flatP st.reverse ++ flatP l)) (hg : W.grownBy W' sv.ownBlock) : WI ns w0 b (l.reverse ++ st) out sv' W' := by
  have hk : Kept (fun k => some k = sv.ownBlock) W W' := (Kept.refl _ _).grown hg (fun k _ e => e)
  obtain ⟨hB, cs, hh⟩ := isB_blk h.bld
  refine ⟨h.kept.trans hk (fun k hk' e => by have := (ownsRow_lt h.own e).2; omega), ?_, isB_of h.bld (hk.block b h.lt (fun e => ?_)) (fun k c3 _ h3 => hk.block k (Array.getElem?_eq_some_iff.1 h3).1 (fun e => ?_)), fun k hk' => ?_⟩
  · rw [List.reverse_append, List.reverse_reverse, flatP_append, List.length_append, List.length_reverse, Nat.add_comm]
    exact hr
  · obtain ⟨c2, h2⟩ := h.own_ty e
    rw [hh] at h2; cases h2
  · obtain ⟨c2, h2⟩ := h.own_ty e
    rw [h3] at h2; cases h2
  · rcases List.mem_append.1 hk' with h1 | h1
    · exact hl k (by simpa using h1)
    · exact h.ok k h1
end
theorem info133 : (Tryd.prog.info? 133).map (fun i => (i.zero, i.size, i.bytes)) = some (some (.agg #[.string ⟨#[]⟩, .int .i64 0]), 2, 24) := by kernel_rfl
theorem kindS_un {op : Int} (h : op = 3 ∨ op = 7 ∨ op = 10 ∨ op = 11) : (kindS op.toNat).data.toList = unS op ∧ (kindS op.toNat).size = 1 := by
  rcases h with rfl | rfl | rfl | rfl <;> exact ⟨rfl, rfl⟩
theorem kindS_bi {op : Int} (h : op = 4 ∨ op = 5 ∨ op = 6 ∨ op = 8 ∨ op = 9) : (kindS op.toNat).data.toList = biS op ∧ 0 < (kindS op.toNat).size ∧ (kindS op.toNat).size ≤ 2 := by
  rcases h with rfl | rfl | rfl | rfl | rfl <;> exact ⟨rfl, by decide, by decide⟩
theorem printT_ne (t : Tr) : printT t ≠ [] := by
  obtain ⟨op, n, ks⟩ := t
  match ks with
  | [] => unfold printT; split <;> (try split) <;> simp [txTrue, txFalse]
  | [a] => unfold printT unS; split <;> (try split) <;> (try split) <;> simp
  | a :: b :: r => unfold printT; simp
theorem printT_lenW : ∀ (N : Nat) (t : Tr), t.size ≤ N → t.well → (printT t).length ≤ 5 * t.size
  | 0, t, h, _ => by have := t.size_pos; omega
  | N + 1, .mk op n ks, h, hw => by
    rcases kids_len hw.1 with ⟨rfl, _⟩ | ⟨a, rfl, _⟩ | ⟨a, b, rfl, _⟩
    · unfold printT
      simp only [Tr.size, Tr.sizes]
      split <;> (try split) <;> simp [txTrue, txFalse]
    · have h1 := printT_lenW N a (by simp only [Tr.size, Tr.sizes] at h; omega) hw.2.1
      have h2 : (unS op).length = 1 := by unfold unS; split <;> (try split) <;> (try split) <;> rfl
      simp only [printT, List.length_append, Tr.size, Tr.sizes]
      omega
    · have h1 := printT_lenW N a (by simp only [Tr.size, Tr.sizes] at h; omega) hw.2.1
      have h2 := printT_lenW N b (by simp only [Tr.size, Tr.sizes] at h; omega) hw.2.2.1
      have h3 : (biS op).length ≤ 2 := by unfold biS; split <;> (try split) <;> (try split) <;> (try split) <;> simp
      simp only [printT, List.length_append, Tr.size, Tr.sizes, List.length_cons, List.length_nil]
      omega
end Go.Proofs.YtdbpdanocpfboaaDoor
