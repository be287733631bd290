/- What U, R, F and G are is what they are now, and what they are next; the walks of the helpers of that law, and its operations, each by itself; the shortest word has the same letters. -/
import Derived.Test.YtdbpdanocpfboaaDoorVLeft
import Derived.Test.YtdbpdanocpfboaaDoorVCopy
import Derived.Test.YtdbpdanocpfboaaDoorVPre
import Derived.Test.YtdbpdanocpfboaaDoorVRef4
namespace Go.Proofs.YtdbpdanocpfboaaDoor
open Go.RowKit

def un (op : Int) (a : Tr) : Tr := .mk op 0 [a]
def bi (op : Int) (a b : Tr) : Tr := .mk op 0 [a, b]
theorem sat_un (x : Nat → Int) (op : Int) (a : Tr) : satT x (un op a) = opP op 0 x (satT x a) (fun _ => False) := by
  funext i; simp [un, satT, satTs]
theorem sat_bi (x : Nat → Int) (op : Int) (a b : Tr) : satT x (bi op a b) = opP op 0 x (satT x a) (satT x b) := by
  funext i; simp [bi, satT, satTs]
theorem un_well {op : Int} {a : Tr} (h : wellN op 0 1) (ha : a.well) : (un op a).well := ⟨h, ha, trivial⟩
theorem bi_well {op : Int} {a b : Tr} (h : wellN op 0 2) (ha : a.well) (hb : b.well) : (bi op a b).well := ⟨h, ha, hb, trivial⟩
theorem un_size (op : Int) (a : Tr) : (un op a).size = a.size + 1 := by simp [un, Tr.size, Tr.sizes]; omega
theorem bi_size (op : Int) (a b : Tr) : (bi op a b).size = a.size + b.size + 1 := by simp [bi, Tr.size, Tr.sizes]; omega

theorem rows_eq {hd lp : List Int} (hl : 0 < lp.length) {t t' : Tr} (ht : t.well) (ht' : t'.well) (h : ∀ i, satT (wAt hd lp) t i ↔ satT (wAt hd lp) t' i) : tvT (hd ++ lp) hd.length t = tvT (hd ++ lp) hd.length t' := by
  have h1 := tvT_len (hd ++ lp) hd.length (by simp; omega) t ht
  have h2 := tvT_len (hd ++ lp) hd.length (by simp; omega) t' ht'
  apply List.ext_getElem?
  intro i
  by_cases hi : i < (hd ++ lp).length
  · have g := h i
    rw [← tv_sat hl ht i (by simpa using hi), ← tv_sat hl ht' i (by simpa using hi), List.getD_eq_getElem?_getD, List.getD_eq_getElem?_getD, List.getElem?_eq_getElem (by omega), List.getElem?_eq_getElem (by omega)] at g
    rw [List.getElem?_eq_getElem (by omega), List.getElem?_eq_getElem (by omega)]
    simp only [Option.getD_some] at g
    rw [Bool.eq_iff_iff.2 g]
  · rw [List.getElem?_eq_none (by omega), List.getElem?_eq_none (by omega)]

section
variable (n : Int) (x : Nat → Int) (a b : Nat → Prop) (i : Nat)
theorem opP3 : opP 3 n x a b i = ¬ a i := rfl
theorem opP4 : opP 4 n x a b i = (a i ∧ b i) := rfl
theorem opP5 : opP 5 n x a b i = (a i ∨ b i) := rfl
theorem opP7 : opP 7 n x a b i = a (i + 1) := rfl
theorem opP8 : opP 8 n x a b i = ∃ j, i ≤ j ∧ b j ∧ ∀ m, i ≤ m → m < j → a m := rfl
theorem opP9 : opP 9 n x a b i = ∀ j, i ≤ j → b j ∨ ∃ m, i ≤ m ∧ m < j ∧ a m := rfl
theorem opP10 : opP 10 n x a b i = ∃ j, i ≤ j ∧ a j := rfl
theorem opP11 : opP 11 n x a b i = ∀ j, i ≤ j → a j := rfl
end
section
variable (x : Nat → Int) (a b : Tr) (i : Nat)
theorem law_until : satT x (bi 8 a b) i ↔ satT x (bi 5 b (bi 4 a (un 7 (bi 8 a b)))) i := by
  simp only [sat_bi, sat_un]
  generalize satT x a = A
  generalize satT x b = B
  simp only [opP4, opP5, opP7, opP8]
  constructor
  · rintro ⟨j, h1, h2, h3⟩
    by_cases e : j = i
    · subst e; exact .inl h2
    · exact .inr ⟨h3 i (Nat.le_refl _) (by omega), j, by omega, h2, fun m m1 m2 => h3 m (by omega) m2⟩
  · rintro (h | ⟨h, j, h1, h2, h3⟩)
    · exact ⟨i, Nat.le_refl _, h, fun m m1 m2 => absurd m1 (by omega)⟩
    · exact ⟨j, by omega, h2, fun m m1 m2 => by
        by_cases e : m = i
        · subst e; exact h
        · exact h3 m (by omega) m2⟩
theorem law_release : satT x (bi 9 a b) i ↔ satT x (bi 4 b (bi 5 a (un 7 (bi 9 a b)))) i := by
  simp only [sat_bi, sat_un]
  generalize satT x a = A
  generalize satT x b = B
  simp only [opP4, opP5, opP7, opP9]
  constructor
  · intro h
    refine ⟨?_, ?_⟩
    · rcases h i (Nat.le_refl _) with g | ⟨m, m1, m2, _⟩
      · exact g
      · omega
    · by_cases g : A i
      · exact .inl g
      · refine .inr (fun j hj => ?_)
        rcases h j (by omega) with g2 | ⟨m, m1, m2, m3⟩
        · exact .inl g2
        · refine .inr ⟨m, ?_, m2, m3⟩
          by_cases e : m = i
          · subst e; exact absurd m3 g
          · omega
  · rintro ⟨h1, h2⟩ j hj
    by_cases e : j = i
    · subst e; exact .inl h1
    · rcases h2 with h2 | h2
      · exact .inr ⟨i, Nat.le_refl _, by omega, h2⟩
      · rcases h2 j (by omega) with g | ⟨m, m1, m2, m3⟩
        · exact .inl g
        · exact .inr ⟨m, by omega, m2, m3⟩
theorem law_opp : satT x (bi 9 a b) i ↔ satT x (un 3 (bi 8 (un 3 a) (un 3 b))) i := by
  simp only [sat_bi, sat_un]
  generalize satT x a = A
  generalize satT x b = B
  simp only [opP3, opP8, opP9]
  constructor
  · rintro h ⟨j, hj, hb, ha⟩
    rcases h j hj with g | ⟨m, m1, m2, m3⟩
    · exact hb g
    · exact ha m m1 m2 m3
  · intro h j hj
    by_cases g : B j
    · exact .inl g
    · by_cases g2 : ∃ m, i ≤ m ∧ m < j ∧ A m
      · exact .inr g2
      · exact absurd ⟨j, hj, g, fun m m1 m2 m3 => g2 ⟨m, m1, m2, m3⟩⟩ h
theorem law_glob : satT x (un 11 a) i ↔ satT x (un 3 (un 10 (un 3 a))) i := by
  simp only [sat_un]
  generalize satT x a = A
  simp only [opP3, opP10, opP11]
  constructor
  · rintro h ⟨j, h1, h2⟩
    exact h2 (h j h1)
  · intro h j hj
    by_cases g : A j
    · exact g
    · exact absurd ⟨j, hj, g⟩ h
theorem law_fin : satT x (un 10 a) i ↔ satT x (bi 5 a (un 7 (un 10 a))) i := by
  simp only [sat_bi, sat_un]
  generalize satT x a = A
  simp only [opP5, opP7, opP10]
  constructor
  · rintro ⟨j, h1, h2⟩
    by_cases e : j = i
    · subst e; exact .inl h2
    · exact .inr ⟨j, by omega, h2⟩
  · rintro (h | ⟨j, h1, h2⟩)
    · exact ⟨i, Nat.le_refl _, h⟩
    · exact ⟨j, by omega, h2⟩
end
/-- words with the same letters: the same truths at the beginning -/
theorem head_same {hd lp hd' lp' : List Int} {t : Tr} (ht : t.well) (hl : 0 < lp.length) (hl' : 0 < lp'.length) (h : ∀ m, wAt hd' lp' m = wAt hd lp m) :
    (tvT (hd' ++ lp') hd'.length t).headD false = (tvT (hd ++ lp) hd.length t).headD false := by
  rw [Bool.eq_iff_iff, tv_head hl' ht, tv_head hl ht]
  exact sat_left (i := 0) (fun m => by rw [h, Nat.zero_add])
end Go.Proofs.YtdbpdanocpfboaaDoor

namespace Go.Proofs.YtdbpdanocpfboaaDoor
open Go.RowKit

theorem FormV.agg {B : Nat} {w : World} {v : Value} {t : Tr} (h : FormV B w v t) : ∃ op n a l c, v = .agg #[.int .i64 op, .int .i64 n, .slice a l c] := by
  obtain ⟨op, n, kids⟩ := t
  obtain ⟨ka, kb, ko, kc, e, _⟩ := h
  exact ⟨_, _, _, _, _, e⟩
theorem plain_new (w : World) (c : Array Value) (t : TypeId) : PlainB (w.alloc (.cells c t)) w.heap.size := ⟨c, t, (MapKept.heap_alloc w _).1⟩

set_option maxRecDepth 100000 in
set_option maxHeartbeats 1000000 in
theorem two41 (w : World) (B : Nat) (op : Int) (av bv : Value) (ta tb : Tr) (hA : FormV B w av ta) (hC : FormV B w bv tb) (hB : B ≤ w.heap.size) :
    Calls Tryd.prog 41 #[.int .i64 op, av, bv] w fun e w' => ∃ v, e = .returned v ∧ Kept (fun _ => False) w w' ∧ FormV w'.heap.size w' v (.mk op 0 [ta, tb]) := by
  obtain ⟨o1, n1, k1⟩ := ta
  obtain ⟨o2, n2, k2⟩ := tb
  obtain ⟨a1, b1, p1, c1, rfl, e1, g1⟩ := hA
  obtain ⟨a2, b2, p2, c2, rfl, e2, g2⟩ := hC
  have E1 : Hid _ := e1
  have E2 : Hid _ := e2
  have G1 : Hid _ := g1
  have G2 : Hid _ := g2
  clear e1 e2 g1 g2
  go_enter Tryd.func41, Tryd.ntmps41
  go_wp2
  obtain ⟨X, hX⟩ : ∃ X, X = (((w.alloc (.cells #[.int .i64 o1, .int .i64 n1, .slice a1 k1.length c1] 24)).alloc (.cells #[.int .i64 o2, .int .i64 n2, .slice a2 k2.length c2] 24)).alloc (.cells #[.int .i64 op, .int .i64 0, .slice (some ⟨w.heap.size + 1 + 1 + 1, 0, none⟩) 2 2] 24)) := ⟨_, rfl⟩
  have kX : Kept (fun _ => False) w X := by rw [hX]; exact (((Kept.refl _ _).alloc _).alloc _).alloc _
  have hs : X.heap.size = w.heap.size + 1 + 1 + 1 := by rw [hX]; simp
  refine bodyPost_ret (v := .agg #[.int .i64 op, .int .i64 0, .slice (some ⟨w.heap.size + 1 + 1 + 1, 0, none⟩) 2 2]) (by simp [results, Tryd.results41, go_sem]) rfl ?_
  rw [← hX, ← hs]
  clear hX
  have kW : Kept (fun _ => False) w (X.alloc (.cells #[.int .i64 o1, .int .i64 n1, .slice a1 k1.length c1, .int .i64 o2, .int .i64 n2, .slice a2 k2.length c2] 24)) := kX.alloc _
  have hp := plain_new X #[.int .i64 o1, .int .i64 n1, .slice a1 k1.length c1, .int .i64 o2, .int .i64 n2, .slice a2 k2.length c2] 24
  have hlt : X.heap.size < (X.alloc (.cells #[.int .i64 o1, .int .i64 n1, .slice a1 k1.length c1, .int .i64 o2, .int .i64 n2, .slice a2 k2.length c2] 24)).heap.size := by simp
  have q1 := FormsAt.mono (Nat.le_trans hB kW.size) (FormsAt.below (kW.below hB (fun _ f => f.elim)) G1.out)
  have q2 := FormsAt.mono (Nat.le_trans hB kW.size) (FormsAt.below (kW.below hB (fun _ f => f.elim)) G2.out)
  refine ⟨_, rfl, kW, some ⟨X.heap.size, 0, none⟩, X.heap.size, 0, 2, rfl, fun _ => rfl, ⟨hlt, hp, ?_, ?_, a1, b1, p1, c1, ?_, E1.out, q1⟩, ⟨hlt, hp, ?_, ?_, a2, b2, p2, c2, ?_, E2.out, q2⟩, trivial⟩
  all_goals (rw [World.cell?_alloc_at (hn := rfl)]; rfl)

set_option maxRecDepth 100000 in
set_option maxHeartbeats 1000000 in
theorem one43 (w : World) (B : Nat) (op : Int) (av : Value) (ta : Tr) (hA : FormV B w av ta) (hB : B ≤ w.heap.size) :
    Calls Tryd.prog 43 #[.int .i64 op, av] w fun e w' => ∃ v, e = .returned v ∧ Kept (fun _ => False) w w' ∧ FormV w'.heap.size w' v (.mk op 0 [ta]) := by
  obtain ⟨o1, n1, k1⟩ := ta
  obtain ⟨a1, b1, p1, c1, rfl, e1, g1⟩ := hA
  have E1 : Hid _ := e1
  have G1 : Hid _ := g1
  clear e1 g1
  go_enter Tryd.func43, Tryd.ntmps43
  go_wp2
  obtain ⟨X, hX⟩ : ∃ X, X = ((w.alloc (.cells #[.int .i64 o1, .int .i64 n1, .slice a1 k1.length c1] 24)).alloc (.cells #[.int .i64 op, .int .i64 0, .slice (some ⟨w.heap.size + 1 + 1, 0, none⟩) 1 1] 24)) := ⟨_, rfl⟩
  have kX : Kept (fun _ => False) w X := by rw [hX]; exact ((Kept.refl _ _).alloc _).alloc _
  have hs : X.heap.size = w.heap.size + 1 + 1 := by rw [hX]; simp
  refine bodyPost_ret (v := .agg #[.int .i64 op, .int .i64 0, .slice (some ⟨w.heap.size + 1 + 1, 0, none⟩) 1 1]) (by simp [results, Tryd.results43, go_sem]) rfl ?_
  rw [← hX, ← hs]
  clear hX
  have kW : Kept (fun _ => False) w (X.alloc (.cells #[.int .i64 o1, .int .i64 n1, .slice a1 k1.length c1] 24)) := kX.alloc _
  have hp := plain_new X #[.int .i64 o1, .int .i64 n1, .slice a1 k1.length c1] 24
  have hlt : X.heap.size < (X.alloc (.cells #[.int .i64 o1, .int .i64 n1, .slice a1 k1.length c1] 24)).heap.size := by simp
  have q1 := FormsAt.mono (Nat.le_trans hB kW.size) (FormsAt.below (kW.below hB (fun _ f => f.elim)) G1.out)
  refine ⟨_, rfl, kW, some ⟨X.heap.size, 0, none⟩, X.heap.size, 0, 1, rfl, fun _ => rfl, ⟨hlt, hp, ?_, ?_, a1, b1, p1, c1, ?_, E1.out, q1⟩, trivial⟩
  all_goals (rw [World.cell?_alloc_at (hn := rfl)]; rfl)
end Go.Proofs.YtdbpdanocpfboaaDoor

namespace Go.Proofs.YtdbpdanocpfboaaDoor
open Go.RowKit

set_option maxRecDepth 100000 in
set_option maxHeartbeats 1000000 in
theorem truths42 (w : World) (B : Nat) (fv gv wv : Value) (hd lp : List Int) (t t' : Tr) (hW : WordV B w wv hd lp) (hF : FormV B w fv t) (hF' : FormV B w gv t') (hB : B ≤ w.heap.size) (hT : TabK w) (hB2 : 2 ≤ B) (hsz : t.size ≤ 268435456) (hsz' : t'.size ≤ 268435456) (hg : goodW hd lp = true) (ht : t.well) (ht' : t'.well)
    (hE : tvT (hd ++ lp) hd.length t = tvT (hd ++ lp) hd.length t') : Calls Tryd.prog 42 #[fv, gv, wv] w fun e w' => Kept (fun _ => False) w w' ∧ e = .returned (.bool true) := by
  obtain ⟨o1, n1, a1, l1, c1, rfl⟩ := hF.agg
  obtain ⟨o2, n2, a2, l2, c2, rfl⟩ := hF'.agg
  obtain ⟨hv1, lv1, rfl, h1, h2⟩ := id hW
  obtain ⟨ha, hc, rfl, hl1⟩ := h1.form
  obtain ⟨la, lc, rfl, hl2⟩ := h2.form
  have hlen := goodW_len hg
  obtain ⟨W0, hW0⟩ : ∃ W0, W0 = (((w.alloc (.cells #[.int .i64 o1, .int .i64 n1, .slice a1 l1 c1] 24)).alloc (.cells #[.int .i64 o2, .int .i64 n2, .slice a2 l2 c2] 24)).alloc (.cells #[.slice ha hd.length hc, .slice la lp.length lc] 49)) := ⟨_, rfl⟩
  have k0 : Kept (fun _ => False) w W0 := by rw [hW0]; exact (((Kept.refl _ _).alloc _).alloc _).alloc _
  have x0 : Bx3 W0 w.heap.size (.int .i64 o1) (.int .i64 n1) (.slice a1 l1 c1) := by
    rw [hW0]
    exact ⟨by simp [go_sem], by simp [go_sem], by simp [go_sem]⟩
  have y0 : Bx3 W0 (w.heap.size + 1) (.int .i64 o2) (.int .i64 n2) (.slice a2 l2 c2) := by
    rw [hW0]
    exact ⟨by rw [World.cell?_alloc_past (hn := by simp), World.cell?_alloc_at (hn := by simp)]; rfl, by rw [World.cell?_alloc_past (hn := by simp), World.cell?_alloc_at (hn := by simp)]; rfl, by rw [World.cell?_alloc_past (hn := by simp), World.cell?_alloc_at (hn := by simp)]; rfl⟩
  have z0 : Bx W0 (w.heap.size + 2) (.slice ha hd.length hc) (.slice la lp.length lc) := by rw [hW0]; exact ⟨by rw [World.cell?_alloc_at (hn := by simp)]; rfl, by rw [World.cell?_alloc_at (hn := by simp)]; rfl⟩
  have HF : Hid (FormV B W0 (.agg #[.int .i64 o1, .int .i64 n1, .slice a1 l1 c1]) t) := hF.below (k0.below hB (fun _ f => f.elim))
  have HF' : Hid (FormV B W0 (.agg #[.int .i64 o2, .int .i64 n2, .slice a2 l2 c2]) t') := hF'.below (k0.below hB (fun _ f => f.elim))
  have HW : Hid (WordV B W0 (.agg #[.slice ha hd.length hc, .slice la lp.length lc]) hd lp) := hW.kept k0 hB
  have HT : Hid (TabK W0) := hT.kept k0
  have hB0 : B ≤ W0.heap.size := Nat.le_trans hB k0.size
  have HE : Hid _ := hE
  have HG : Hid _ := hg
  obtain ⟨x00, x01, x02⟩ := id x0
  obtain ⟨z00, z01⟩ := id z0
  clear hF hF' hW h1 h2 hT hE hg
  go_enter Tryd.func42, Tryd.ntmps42
  go_upto_region 1 with fail
  rw [← hW0]
  clear hW0
  go_upto_region 2 with (go_at_call 27; refine (truths27g _ B _ _ hd lp t HW.out HF.out hB0 HT.out hB2 hsz HG.out ht).mono ?_; rintro e w1 ⟨b1, m1, rfl, rfl, k1, cells1⟩)
  obtain ⟨y10, y11, y12⟩ := y0.kept k1
  obtain ⟨z10, z11⟩ := z0.kept k1 (fun f => f)
  have HF1 : Hid (FormV B w1 (.agg #[.int .i64 o2, .int .i64 n2, .slice a2 l2 c2]) t') := HF'.out.below (k1.below hB0 (fun _ f => f.elim))
  have HW1 : Hid (WordV B w1 (.agg #[.slice ha hd.length hc, .slice la lp.length lc]) hd lp) := HW.out.kept k1 hB0
  have HT1 : Hid (TabK w1) := HT.out.kept k1
  have hB1 := Nat.le_trans hB0 k1.size
  have C1 : Hid (∀ i, i < hd.length + lp.length → w1.cell? ⟨b1, i, none⟩ = some (.bool ((tvT (hd ++ lp) hd.length t).getD i false))) := cells1
  clear x00 x01 x02 z00 z01 HF HF' HW HT x0 y0 z0 cells1
  go_upto_region 3 with (go_at_call 27; refine (truths27g _ B _ _ hd lp t' HW1.out HF1.out hB1 HT1.out hB2 hsz' HG.out ht').mono ?_; rintro e w2 ⟨b2, m2, rfl, rfl, k2, cells2⟩)
  have C2 : Hid (∀ i, i < hd.length + lp.length → w2.cell? ⟨b2, i, none⟩ = some (.bool ((tvT (hd ++ lp) hd.length t).getD i false))) := by
    rw [HE.out]
    intro i hi
    exact cells2 i (by omega)
  have C1' : Hid (∀ i, i < hd.length + lp.length → w2.cell? ⟨b1, i, none⟩ = some (.bool ((tvT (hd ++ lp) hd.length t).getD i false))) := fun i hi => (k2.cell (lt_of_cell (C1.out i hi)) (fun f => f)).trans (C1.out i hi)
  have hm0 : 0 < hd.length + lp.length := by omega
  have kw := (k0.trans k1 (fun _ _ f => f)).trans k2 (fun _ _ f => f)
  have KW2 : Hid (Kept (fun _ => False) w w2) := kw
  clear y10 y11 y12 z10 z11 cells2 C1 HF1 HW1 HT1 kw k0 k1 k2
  have hm0i : ((hd.length : Int) + (lp.length : Int) == 0) = false := by simp; omega
  go_wp2
  go_loopw [9] (fun v9 wr => ∃ i : Nat, i ≤ hd.length + lp.length ∧ v9 = .int .i64 (i : Int) ∧ Kept (fun _ => False) w2 wr) (fun v9 _ => hd.length + lp.length - (intOf v9).toNat)
  case atStart => exact ⟨0, Nat.zero_le _, rfl, Kept.refl _ _⟩
  case round =>
    obtain ⟨i, hi, rfl, hkr⟩ := hrel
    by_cases hlt : i < hd.length + lp.length
    · have hlti : (i : Int) < (hd.length : Int) + (lp.length : Int) := by omega
      have hnle : ¬ ((hd.length : Int) + (lp.length : Int) ≤ (i : Int)) := by omega
      obtain ⟨bv, hbv⟩ : ∃ bv, (tvT (hd ++ lp) hd.length t).getD i false = bv := ⟨_, rfl⟩
      have g1 : wr.cell? ⟨b1, i, none⟩ = some (.bool bv) := by rw [← hbv]; exact (hkr.cell (lt_of_cell (C1'.out i hlt)) (fun f => f)).trans (C1'.out i hlt)
      have g2 : wr.cell? ⟨b2, i, none⟩ = some (.bool bv) := by rw [← hbv]; exact (hkr.cell (lt_of_cell (C2.out i hlt)) (fun f => f)).trans (C2.out i hlt)
      clear hbv
      go_upto_region 8 with fail
      go_region
      all_goals
        go_wp2
        go_roundw
        case rel => exact ⟨i + 1, by omega, by go_num, hkr.drew⟩
        case measure => simp [intOf]; omega
    · have hlti : ¬ (i : Int) < (hd.length : Int) + (lp.length : Int) := by omega
      go_wp2
      go_ret
      exact ⟨KW2.out.trans hkr (fun _ _ f => f), rfl⟩
end Go.Proofs.YtdbpdanocpfboaaDoor

namespace Go.Proofs.YtdbpdanocpfboaaDoor
open Go.RowKit

theorem cutW_getD (x : Nat → Int) (a n i : Nat) (h : i < n) : (cutW x a n).getD i 0 = x (a + i) := by
  simp [cutW, List.getD_eq_getElem?_getD, List.getElem?_map, List.getElem?_range h]
theorem short_same {hd lp : List Int} {h P : Nat} (hl : 0 < lp.length) (s : Short hd lp h P) : ∀ m, wAt (cutW (wAt hd lp) 0 h) (cutW (wAt hd lp) h P) m = wAt hd lp m := by
  have n := s.norm hl
  have h1 : 1 ≤ P := n.1
  have px := wAt_per (cutW (wAt hd lp) 0 h) (cutW (wAt hd lp) h P)
  rw [cutW_length, cutW_length] at px
  refine per_all h1 px n.2.1 (fun i hi => ?_)
  unfold wAt
  rw [cutW_length, cutW_length]
  by_cases hh : i < h
  · rw [if_pos hh]
    have := cutW_getD (wAt hd lp) 0 h i hh
    rw [Nat.zero_add] at this
    exact this
  · rw [if_neg hh, Nat.mod_eq_of_lt (by omega)]
    have := cutW_getD (wAt hd lp) h P (i - h) (by omega)
    rw [show h + (i - h) = i by omega] at this
    exact this
theorem wAt_ok {hd lp : List Int} (hg : goodW hd lp = true) (j : Nat) : okNum (wAt hd lp j) = true := by
  have hl := goodW_len hg
  simp only [goodW, Bool.and_eq_true, List.all_eq_true] at hg
  unfold wAt
  by_cases h : j < hd.length
  · rw [if_pos h, List.getD_eq_getElem?_getD, List.getElem?_eq_getElem h]
    exact hg.2.1 _ (List.getElem_mem h)
  · have hm : (j - hd.length) % lp.length < lp.length := Nat.mod_lt _ hl.2
    rw [if_neg h, List.getD_eq_getElem?_getD, List.getElem?_eq_getElem hm]
    exact hg.2.2 _ (List.getElem_mem hm)
theorem short_good {hd lp : List Int} {h P : Nat} (hg : goodW hd lp = true) (s : Short hd lp h P) : goodW (cutW (wAt hd lp) 0 h) (cutW (wAt hd lp) h P) = true := by
  have hl := goodW_len hg
  have n := s.norm hl.2
  have h1 : 1 ≤ P := n.1
  have hP : P ≤ lp.length := n.2.2.1 hd.length lp.length (by omega) (wAt_per hd lp)
  have hh : h ≤ hd.length := s.2.1
  simp only [goodW, Bool.and_eq_true, List.all_eq_true, decide_eq_true_eq, cutW_length]
  refine ⟨⟨?_, by omega⟩, fun x hx => ?_, fun x hx => ?_⟩
  · cases hc : cutW (wAt hd lp) h P with
    | nil => have := cutW_length (wAt hd lp) h P; rw [hc] at this; simp at this; omega
    | cons => rfl
  · simp only [cutW, List.mem_map] at hx
    obtain ⟨i, _, rfl⟩ := hx
    exact wAt_ok hg _
  · simp only [cutW, List.mem_map] at hx
    obtain ⟨i, _, rfl⟩ := hx
    exact wAt_ok hg _
theorem short_sameB {hd lp : List Int} {h P : Nat} (hg : goodW hd lp = true) (s : Short hd lp h P) : sameB hd lp (cutW (wAt hd lp) 0 h) (cutW (wAt hd lp) h P) = true :=
  sameB_true hg (short_good hg s) (fun i _ => (short_same (goodW_len hg).2 s i).symm)
end Go.Proofs.YtdbpdanocpfboaaDoor

namespace Go.Proofs.YtdbpdanocpfboaaDoor
open Go.RowKit

/-- what an operation answers: a value; a formula, a word, in whatever memory -/
inductive Sq where
  | val (v : Value)
  | form (t : Tr)
  | word (hd lp : List Int)
def Sq.ok : Sq → Value → World → Prop
  | .val x, v, _ => v = x
  | .form t, v, W => FormV W.heap.size W v t
  | .word hd lp, v, W => WordV W.heap.size W v hd lp
theorem Sq.mono {s : Sq} {v : Value} {W W' : World} (hk : Kept (fun _ => False) W W') (h : s.ok v W) : s.ok v W' := by
  cases s with
  | val x => exact h
  | form t => exact FormV.new h hk
  | word hd lp => exact WordV.new h hk
def sqR (l : List Sq) (i : Nat) (v : Value) (W : World) : Prop := (l.getD i (.val undef)).ok v W
theorem wp_region_sq {P : Program} {id : Nat} {Q : Exit → Act → World → Prop} {a0 : Act} {w : World} {l : List Oper} (D : List Nat) (S : List Sq) (hm : P.follows .mixedOrders = true)
    (hD : l.map (·.dst) = D.map some) (hn : D.Nodup) (hg : l.all (fun o => o.guard.isNone) = true) (hb : D.all (fun d => decide (d < a0.tmps.size)) = true) (ha : afterB l = true)
    (hstep : StepsR P Q a0 w D (sqR S) l 0)
    (hend : ∀ (f : Nat → Value) (W : World), Kept (fun _ => False) w W → (∀ i, i < l.length → sqR S i (f i) W) → Q .normal (puts a0 D 0 f) W) : (Code.region id l.toArray true).wp P Q a0 w :=
  wp_region_grow D (sqR S) hm hD hn hg hb ha (fun _ _ _ _ hk h => Sq.mono hk h) hstep hend

/-- a box that holds a formula -/
def FBox (W : World) (b : Nat) (t : Tr) : Prop := ∃ o n a l c, Bx3 W b (.int .i64 o) (.int .i64 n) (.slice a l c) ∧ FormV W.heap.size W (.agg #[.int .i64 o, .int .i64 n, .slice a l c]) t
theorem FBox.kept {W W' : World} {b : Nat} {t : Tr} (h : FBox W b t) (hk : Kept (fun _ => False) W W') : FBox W' b t := by
  obtain ⟨o, n, a, l, c, h1, h2⟩ := h
  exact ⟨o, n, a, l, c, h1.kept hk, h2.new hk⟩
theorem FBox.new {w : World} {o n : Int} {a : Option Addr} {l c : Nat} {t : Tr} (h : FormV w.heap.size w (.agg #[.int .i64 o, .int .i64 n, .slice a l c]) t) : FBox (w.alloc (.cells #[.int .i64 o, .int .i64 n, .slice a l c] 24)) w.heap.size t :=
  ⟨o, n, a, l, c, ⟨by simp, by simp, by simp⟩, h.new ((Kept.refl _ _).alloc _)⟩
/-- a box that holds a word -/
def UBox (W : World) (b : Nat) (hd lp : List Int) : Prop := ∃ a c a' c', Bx W b (.slice a hd.length c) (.slice a' lp.length c') ∧ WordV W.heap.size W (.agg #[.slice a hd.length c, .slice a' lp.length c']) hd lp
theorem UBox.kept {W W' : World} {b : Nat} {hd lp : List Int} (h : UBox W b hd lp) (hk : Kept (fun _ => False) W W') : UBox W' b hd lp := by
  obtain ⟨a, c, a', c', h1, h2⟩ := h
  exact ⟨a, c, a', c', h1.kept hk (fun f => f), h2.new hk⟩

section
variable {Q : Exit → Act → World → Prop} {a0 : Act} {w : World} {D : List Nat} {S : List Sq} {i : Nat} {o : Oper}

theorem stepR_loadF {s b : Nat} {t : Tr} (ho : o.op = .load 24 (.tmp s)) (hs : s ∉ D) (ha : a0.eval (.tmp s) = .pointer (some ⟨b, 0, none⟩)) (hb : FBox w b t) (hS : S.getD i (.val undef) = .form t) : StepR Tryd.prog Q a0 w D (sqR S) i o := by
  intro a W hk hq _ K hK
  have e := (hq s hs).trans ha
  obtain ⟨x, n, p, l, c, ⟨c0, c1, c2⟩, hF⟩ := hb.kept hk
  refine wp_value (v := .agg #[.int .i64 x, .int .i64 n, .slice p l c]) ?_ (hK _ W (Kept.refl _ _) ?_)
  · revert e; generalize a.eval = ρ; intro e
    simp [execOp, go_sem, ho, e, c0, c1, c2]
  · unfold sqR
    rw [hS]
    exact hF
theorem stepR_loadU {s b : Nat} {hd lp : List Int} (ho : o.op = .load 49 (.tmp s)) (hs : s ∉ D) (ha : a0.eval (.tmp s) = .pointer (some ⟨b, 0, none⟩)) (hb : UBox w b hd lp) (hS : S.getD i (.val undef) = .word hd lp) : StepR Tryd.prog Q a0 w D (sqR S) i o := by
  intro a W hk hq _ K hK
  have e := (hq s hs).trans ha
  obtain ⟨p, c, p', c', ⟨c0, c1⟩, hF⟩ := hb.kept hk
  refine wp_value (v := .agg #[.slice p hd.length c, .slice p' lp.length c']) ?_ (hK _ W (Kept.refl _ _) ?_)
  · revert e; generalize a.eval = ρ; intro e
    simp [execOp, go_sem, ho, e, c0, c1]
  · unfold sqR
    rw [hS]
    exact hF
theorem stepR_one {op : Int} {d j : Nat} {t : Tr} (ho : o.op = .call { callee := .value (.func 43), args := #[.const (.int .i64 op), .tmp d], argTypes := #[3, 24] }) (hj : (⟨j, .data⟩ : Edge) ∈ o.after) (hd : D[j]? = some d) (hSj : S.getD j (.val undef) = .form t) (hS : S.getD i (.val undef) = .form (.mk op 0 [t])) : StepR Tryd.prog Q a0 w D (sqR S) i o := by
  intro a W hk _ hdp K hK
  have e := hdp _ hj rfl d hd
  unfold sqR at e
  rw [hSj] at e
  have hf : a.eval (.func 43) = .func (.func 43) #[] #[] := rfl
  have hc : a.eval (.const (.int .i64 op)) = .int .i64 op := rfl
  refine wp_enter (args := #[.int .i64 op, a.eval (.tmp d)]) (W' := W) (f := 43) ?_ (one43 W W.heap.size op _ t e (Nat.le_refl _)) ?_
  · revert hf hc; generalize a.eval = ρ; intro hf hc
    simp [execOp, go_sem, ho, hf, hc]
  · rintro e' w' ⟨v, rfl, hk', hF⟩
    refine ⟨v, rfl, hK v w' hk' ?_⟩
    unfold sqR
    rw [hS]
    exact hF
theorem stepR_two {op : Int} {d d' j j' : Nat} {t t' : Tr} (ho : o.op = .call { callee := .value (.func 41), args := #[.const (.int .i64 op), .tmp d, .tmp d'], argTypes := #[3, 24, 24] }) (hj : (⟨j, .data⟩ : Edge) ∈ o.after) (hj' : (⟨j', .data⟩ : Edge) ∈ o.after) (hd : D[j]? = some d) (hd' : D[j']? = some d') (hSj : S.getD j (.val undef) = .form t) (hSj' : S.getD j' (.val undef) = .form t') (hS : S.getD i (.val undef) = .form (.mk op 0 [t, t'])) : StepR Tryd.prog Q a0 w D (sqR S) i o := by
  intro a W hk _ hdp K hK
  have e := hdp _ hj rfl d hd
  have e' := hdp _ hj' rfl d' hd'
  unfold sqR at e e'
  rw [hSj] at e
  rw [hSj'] at e'
  have hf : a.eval (.func 41) = .func (.func 41) #[] #[] := rfl
  have hc : a.eval (.const (.int .i64 op)) = .int .i64 op := rfl
  refine wp_enter (args := #[.int .i64 op, a.eval (.tmp d), a.eval (.tmp d')]) (W' := W) (f := 41) ?_ (two41 W W.heap.size op _ _ t t' e e' (Nat.le_refl _)) ?_
  · revert hf hc; generalize a.eval = ρ; intro hf hc
    simp [execOp, go_sem, ho, hf, hc]
  · rintro e' w' ⟨v, rfl, hk', hF⟩
    refine ⟨v, rfl, hK v w' hk' ?_⟩
    unfold sqR
    rw [hS]
    exact hF
theorem stepR_truths {d1 d2 d3 j1 j2 j3 : Nat} {t t' : Tr} {hd lp : List Int} (ho : o.op = .call { callee := .value (.func 42), args := #[.tmp d1, .tmp d2, .tmp d3], argTypes := #[24, 24, 49] }) (hj1 : (⟨j1, .data⟩ : Edge) ∈ o.after) (hj2 : (⟨j2, .data⟩ : Edge) ∈ o.after) (hj3 : (⟨j3, .data⟩ : Edge) ∈ o.after) (hd1 : D[j1]? = some d1) (hd2 : D[j2]? = some d2) (hd3 : D[j3]? = some d3) (hS1 : S.getD j1 (.val undef) = .form t) (hS2 : S.getD j2 (.val undef) = .form t') (hS3 : S.getD j3 (.val undef) = .word hd lp) (hS : S.getD i (.val undef) = .val (.bool true))
    (hT : TabK w) (h2 : 2 ≤ w.heap.size) (hsz : t.size ≤ 268435456) (hsz' : t'.size ≤ 268435456) (hg : goodW hd lp = true) (ht : t.well) (ht' : t'.well) (hE : ∀ i, satT (wAt hd lp) t i ↔ satT (wAt hd lp) t' i) : StepR Tryd.prog Q a0 w D (sqR S) i o := by
  intro a W hk _ hdp K hK
  have e1 := hdp _ hj1 rfl d1 hd1
  have e2 := hdp _ hj2 rfl d2 hd2
  have e3 := hdp _ hj3 rfl d3 hd3
  unfold sqR at e1 e2 e3
  rw [hS1] at e1
  rw [hS2] at e2
  rw [hS3] at e3
  have hf : a.eval (.func 42) = .func (.func 42) #[] #[] := rfl
  refine wp_enter (args := #[a.eval (.tmp d1), a.eval (.tmp d2), a.eval (.tmp d3)]) (W' := W) (f := 42) ?_ (truths42 W W.heap.size _ _ _ hd lp t t' e3 e1 e2 (Nat.le_refl _) (hT.kept hk) (Nat.le_trans h2 hk.size) hsz hsz' hg ht ht' (rows_eq (goodW_len hg).2 ht ht' hE)) ?_
  · revert hf; generalize a.eval = ρ; intro hf
    simp [execOp, go_sem, ho, hf]
  · rintro e' w' ⟨hk', rfl⟩
    refine ⟨_, rfl, hK _ w' hk' ?_⟩
    unfold sqR
    rw [hS]
    rfl
theorem stepR_assign {d j : Nat} {v : Value} (ho : o.op = .assign (.tmp d)) (hj : (⟨j, .data⟩ : Edge) ∈ o.after) (hd : D[j]? = some d) (hSj : S.getD j (.val undef) = .val v) (hS : S.getD i (.val undef) = .val v) : StepR Tryd.prog Q a0 w D (sqR S) i o := by
  intro a W hk _ hdp K hK
  have e := hdp _ hj rfl d hd
  unfold sqR at e
  rw [hSj] at e
  have e' : a.eval (.tmp d) = v := e
  refine wp_value (v := v) ?_ (hK _ W (Kept.refl _ _) ?_)
  · revert e'; generalize a.eval = ρ; intro e'
    simp [execOp, go_sem, ho, e']
  · unfold sqR
    rw [hS]
    rfl
end
end Go.Proofs.YtdbpdanocpfboaaDoor
