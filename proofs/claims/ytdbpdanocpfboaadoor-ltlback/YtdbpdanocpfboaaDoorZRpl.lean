import Derived.Test.YtdbpdanocpfboaaDoorZBun02
/- The document's own answer: what is plain. -/
namespace Go.Proofs.YtdbpdanocpfboaaDoor
open Go.RowKit

def leafT (op : Int) : Tr := .mk op 0 []
def binT (op : Int) (a b : Tr) : Tr := .mk op 0 [a, b]
/-- what an Op is, of opposites -/
def otherO (op : Int) : Int := if op = 4 then 5 else if op = 5 then 4 else if op = 8 then 9 else 8
/-- what is plain, of a formula, or of its opposite -/
def plainT : Tr → Bool → Tr
  | .mk op n [], nt =>
    if op = 0 then leafT (if nt then 1 else 0)
    else if op = 1 then leafT (if nt then 0 else 1)
    else if nt then .mk 3 0 [.mk 2 n []] else .mk 2 n []
  | .mk op _ [a], nt =>
    if op = 3 then plainT a (!nt)
    else if op = 7 then .mk 7 0 [plainT a nt]
    else if op = 10 then binT (if nt then 9 else 8) (leafT (if nt then 1 else 0)) (plainT a nt)
    else binT (if nt then 8 else 9) (leafT (if nt then 0 else 1)) (plainT a nt)
  | .mk op _ (a :: b :: _), nt =>
    if op = 6 then binT (if nt then 4 else 5) (plainT a (!nt)) (plainT b nt)
    else binT (if nt then otherO op else op) (plainT a nt) (plainT b nt)

set_option maxRecDepth 100000 in
set_option maxHeartbeats 1000000 in
theorem two78 (S : Nat → Prop) (w : World) (op : Int) (av bv : Value) (ta tb : Tr) (hS : ∀ b, S b → b < w.heap.size) (hA : RVS S w av ta) (hC : RVS S w bv tb) :
    Calls Tryd.prog 78 #[.int .i64 op, av, bv] w fun e w' => ∃ v, e = .returned v ∧ Kept (fun _ => False) w w' ∧ RVS (fun b => S b ∨ w.heap.size ≤ b ∧ b < w'.heap.size) w' v (binT op ta tb) := by
  obtain ⟨o1, n1, k1⟩ := ta
  obtain ⟨o2, n2, k2⟩ := tb
  obtain ⟨a1, b1, p1, c1, rfl, e1, g1⟩ := hA
  obtain ⟨a2, b2, p2, c2, rfl, e2, g2⟩ := hC
  have E1 : Hid _ := e1
  have E2 : Hid _ := e2
  have G1 : Hid _ := g1
  have G2 : Hid _ := g2
  have HS : Hid (∀ b, S b → b < w.heap.size) := hS
  clear e1 e2 g1 g2 hS
  go_enter Tryd.func78, Tryd.ntmps78
  go_wp2
  obtain ⟨X, hX⟩ : ∃ X, X = (((w.alloc (.cells #[.int .i64 o1, .int .i64 n1, .slice a1 k1.length c1] 30)).alloc (.cells #[.int .i64 o2, .int .i64 n2, .slice a2 k2.length c2] 30)).alloc (.cells #[.int .i64 op, .int .i64 0, .slice (some ⟨w.heap.size + 1 + 1 + 1, 0, none⟩) 2 2] 30)) := ⟨_, rfl⟩
  have kX : Kept (fun _ => False) w X := by rw [hX]; exact (((Kept.refl _ _).alloc _).alloc _).alloc _
  have hs : X.heap.size = w.heap.size + 1 + 1 + 1 := by rw [hX]; simp
  refine bodyPost_ret (v := .agg #[.int .i64 op, .int .i64 0, .slice (some ⟨w.heap.size + 1 + 1 + 1, 0, none⟩) 2 2]) (by simp [results, Tryd.results78, go_sem]) rfl ?_
  rw [← hX, ← hs]
  clear hX
  have kW : Kept (fun _ => False) w (X.alloc (.cells #[.int .i64 o1, .int .i64 n1, .slice a1 k1.length c1, .int .i64 o2, .int .i64 n2, .slice a2 k2.length c2] 30)) := kX.alloc _
  have hlt : X.heap.size < (X.alloc (.cells #[.int .i64 o1, .int .i64 n1, .slice a1 k1.length c1, .int .i64 o2, .int .i64 n2, .slice a2 k2.length c2] 30)).heap.size := by simp
  have q1 := RsS.keep (S' := fun b => S b ∨ w.heap.size ≤ b ∧ b < (X.alloc (.cells #[.int .i64 o1, .int .i64 n1, .slice a1 k1.length c1, .int .i64 o2, .int .i64 n2, .slice a2 k2.length c2] 30)).heap.size) (fun b hb => Or.inl hb) (fun b hb => kW.block b (HS.out b hb) (fun f => f)) G1.out
  have q2 := RsS.keep (S' := fun b => S b ∨ w.heap.size ≤ b ∧ b < (X.alloc (.cells #[.int .i64 o1, .int .i64 n1, .slice a1 k1.length c1, .int .i64 o2, .int .i64 n2, .slice a2 k2.length c2] 30)).heap.size) (fun b hb => Or.inl hb) (fun b hb => kW.block b (HS.out b hb) (fun f => f)) G2.out
  have hnew : S X.heap.size ∨ w.heap.size ≤ X.heap.size ∧ X.heap.size < (X.alloc (.cells #[.int .i64 o1, .int .i64 n1, .slice a1 k1.length c1, .int .i64 o2, .int .i64 n2, .slice a2 k2.length c2] 30)).heap.size := .inr ⟨kX.size, hlt⟩
  refine ⟨_, rfl, kW, some ⟨X.heap.size, 0, none⟩, X.heap.size, 0, 2, rfl, fun _ => rfl, ⟨hnew, ?_, ?_, a1, b1, p1, c1, ?_, E1.out, q1⟩, ⟨hnew, ?_, ?_, a2, b2, p2, c2, ?_, E2.out, q2⟩, trivial⟩
  all_goals (rw [World.cell?_alloc_at (hn := rfl)]; rfl)
theorem other93 (w : World) (op : Int) : Calls Tryd.prog 93 #[.int .i64 op] w fun e w' => w' = w ∧ e = .returned (.int .i64 (otherO op)) := by
  by_cases h4 : op = 4
  · subst h4
    go_enter Tryd.func93, Tryd.ntmps93
    go_wp2
    go_ret
    exact ⟨rfl, rfl⟩
  by_cases h5 : op = 5
  · subst h5
    go_enter Tryd.func93, Tryd.ntmps93
    go_wp2
    go_ret
    exact ⟨rfl, rfl⟩
  by_cases h8 : op = 8
  · subst h8
    go_enter Tryd.func93, Tryd.ntmps93
    go_wp2
    go_ret
    exact ⟨rfl, rfl⟩
  have HO : Hid (otherO op = 8) := by rw [Hid, otherO, if_neg h4, if_neg h5, if_neg h8]
  have e4 : (op == 4) = false := by simpa using h4
  have e5 : (op == 5) = false := by simpa using h5
  have e8 : (op == 8) = false := by simpa using h8
  clear h4 h5 h8
  go_enter Tryd.func93, Tryd.ntmps93
  go_wp2
  go_ret
  exact ⟨rfl, congrArg (fun x => Ending.returned (.int .i64 x)) HO.out.symm⟩

theorem len_two {α : Type} {l : List α} (h : l.length = 2) : ∃ a b, l = [a, b] := by
  match l, h with
  | [a, b], _ => exact ⟨a, b, rfl⟩
def Says57 (N : Nat) : Prop := ∀ (t : Tr), t.size ≤ N → t.well → ∀ (w : World) (fv : Value) (nt : Bool), RV w.heap.size w fv t →
    Calls Tryd.prog 57 #[fv, .bool nt] w fun e w' => ∃ v, e = .returned v ∧ Kept (fun _ => False) w w' ∧ RVS (fun b => w.heap.size ≤ b ∧ b < w'.heap.size) w' v (plainT t nt)
/-- a box of three that may be written over -/
def Wb3 (W : World) (b : Nat) (x y z : Value) : Prop := b < W.heap.size ∧ (W.cell? ⟨b, 0, none⟩ = some x ∧ W.cell? ⟨b, 1, none⟩ = some y ∧ W.cell? ⟨b, 2, none⟩ = some z) ∧ (W.frozen? ⟨b, 0, none⟩ = false ∧ W.frozen? ⟨b, 1, none⟩ = false ∧ W.frozen? ⟨b, 2, none⟩ = false)
theorem Wb3.kept {W W' : World} {b : Nat} {x y z : Value} (h : Wb3 W b x y z) (hk : Kept (fun _ => False) W W') : Wb3 W' b x y z := by
  obtain ⟨h0, ⟨h1, h2, h3⟩, h4, h5, h6⟩ := h
  exact ⟨Nat.lt_of_lt_of_le h0 hk.size, ⟨(hk.cell (p := ⟨b, 0, none⟩) h0 (fun f => f)).trans h1, (hk.cell (p := ⟨b, 1, none⟩) h0 (fun f => f)).trans h2, (hk.cell (p := ⟨b, 2, none⟩) h0 (fun f => f)).trans h3⟩, (hk.frozen (p := ⟨b, 0, none⟩) h0 (fun f => f)).trans h4, (hk.frozen (p := ⟨b, 1, none⟩) h0 (fun f => f)).trans h5, (hk.frozen (p := ⟨b, 2, none⟩) h0 (fun f => f)).trans h6⟩
theorem Wb3.new (w : World) (x y z : Value) (t : TypeId) : Wb3 (w.alloc (.cells #[x, y, z] t)) w.heap.size x y z := ⟨by simp, ⟨by simp, by simp, by simp⟩, by simp, by simp, by simp⟩

theorem Wb3.other {W : World} {b : Nat} {x y z : Value} (h : Wb3 W b x y z) {p : Addr} (hp : p.block ≠ b) (u : Value) : Wb3 (W.setCell p u) b x y z := by
  obtain ⟨h0, ⟨h1, h2, h3⟩, h4, h5, h6⟩ := h
  have hb : (W.setCell p u).heap[b]? = W.heap[b]? := Below.heap_setCell _ _ _ _ (fun e => hp e.symm)
  exact ⟨Nat.lt_of_lt_of_le h0 (by simp [World.setCell]), ⟨(World.cell?_of_block (w := W) (a := ⟨b, 0, none⟩) hb).trans h1, (World.cell?_of_block (w := W) (a := ⟨b, 1, none⟩) hb).trans h2, (World.cell?_of_block (w := W) (a := ⟨b, 2, none⟩) hb).trans h3⟩, (World.frozen?_of_block (w := W) (a := ⟨b, 0, none⟩) hb).trans h4, (World.frozen?_of_block (w := W) (a := ⟨b, 1, none⟩) hb).trans h5, (World.frozen?_of_block (w := W) (a := ⟨b, 2, none⟩) hb).trans h6⟩
theorem Wb3.store {W : World} {b : Nat} {x y z : Value} (h : Wb3 W b x y z) (x' y' z' : Value) : Wb3 (((W.setCell ⟨b, 0, none⟩ x').setCell ⟨b, 1, none⟩ y').setCell ⟨b, 2, none⟩ z') b x' y' z' := by
  obtain ⟨h0, ⟨h1, h2, h3⟩, h4, h5, h6⟩ := h
  refine ⟨Nat.lt_of_lt_of_le h0 (by simp [World.setCell]), ⟨?_, ?_, ?_⟩, ?_, ?_, ?_⟩ <;> simp [go_sem, h1, h2, h3, h4, h5, h6]
theorem Wb3.other3 {W : World} {b c : Nat} {x y z : Value} (h : Wb3 W b x y z) (hc : c ≠ b) (x' y' z' : Value) : Wb3 (((W.setCell ⟨c, 0, none⟩ x').setCell ⟨c, 1, none⟩ y').setCell ⟨c, 2, none⟩ z') b x y z := ((h.other (p := ⟨c, 0, none⟩) hc _).other (p := ⟨c, 1, none⟩) hc _).other (p := ⟨c, 2, none⟩) hc _
theorem kept3 {w W : World} {c : Nat} (h : Kept (fun _ => False) w W) (hc : w.heap.size ≤ c) (x' y' z' : Value) : Kept (fun _ => False) w (((W.setCell ⟨c, 0, none⟩ x').setCell ⟨c, 1, none⟩ y').setCell ⟨c, 2, none⟩ z') :=
  ((h.setCell (fun hh => absurd hh (by simp only; omega)) _).setCell (fun hh => absurd hh (by simp only; omega)) _).setCell (fun hh => absurd hh (by simp only; omega)) _
theorem RV.kept {w W : World} {v : Value} {t : Tr} (h : RV w.heap.size w v t) (hk : Kept (fun _ => False) w W) : RV W.heap.size W v t := (h.below (hk.below (Nat.le_refl _) (fun _ f => f.elim))).mono hk.size
theorem fin57 {w w1 : World} {r B0 : Nat} {v x y z : Value} {t : Tr} (k01 : Kept (fun _ => False) w w1) (hr : w.heap.size ≤ r) (hrB : r < B0) (h : RVS (fun b => B0 ≤ b ∧ b < w1.heap.size) w1 v t) :
    Kept (fun _ => False) w (((w1.setCell ⟨r, 0, none⟩ x).setCell ⟨r, 1, none⟩ y).setCell ⟨r, 2, none⟩ z) ∧ RVS (fun b => w.heap.size ≤ b ∧ b < (((w1.setCell ⟨r, 0, none⟩ x).setCell ⟨r, 1, none⟩ y).setCell ⟨r, 2, none⟩ z).heap.size) (((w1.setCell ⟨r, 0, none⟩ x).setCell ⟨r, 1, none⟩ y).setCell ⟨r, 2, none⟩ z) v t := by
  refine ⟨((k01.setCell (fun hh => absurd hh (by simp only; omega)) _).setCell (fun hh => absurd hh (by simp only; omega)) _).setCell (fun hh => absurd hh (by simp only; omega)) _, ?_⟩
  have hn : ¬ (B0 ≤ r ∧ r < w1.heap.size) := by omega
  exact (((h.set (p := ⟨r, 0, none⟩) hn x).set (p := ⟨r, 1, none⟩) hn y).set (p := ⟨r, 2, none⟩) hn z).keep (fun b hb => ⟨by omega, by simpa [World.setCell] using hb.2⟩) (fun _ _ => rfl)

set_option maxRecDepth 100000 in
set_option maxHeartbeats 20000000 in
theorem plain57 : ∀ (N : Nat), Says57 N := by
  intro N
  induction N with
  | zero => intro t ht; have := t.size_pos; omega
  | succ N ih =>
    intro t ht htw w fv nt hv
    obtain ⟨op, nn, kids⟩ := t
    obtain ⟨ka, kb, ko, kc, rfl, hka, hks⟩ := hv
    have IH : Hid (Says57 N) := ih
    clear ih
    have hsz : Tr.sizes kids ≤ N := by simp only [Tr.size] at ht; omega
    have HKW : Hid (Tr.wells kids) := htw.2
    obtain ⟨hop0, hop12, hkl, hnn0, hnn1⟩ := htw.1
    have HKL : Hid ((kids.length : Int) = kidC op) := hkl
    have HNT : Hid (nn ≤ topN op) := hnn1
    have HKS : Hid (RsAt w.heap.size w kb ko kids) := hks
    have HKA : Hid (0 < kids.length → ka = some ⟨kb, ko, none⟩) := hka
    clear hks hka hkl hnn1 htw ht
    have hops : op = 0 ∨ op = 1 ∨ op = 2 ∨ op = 3 ∨ op = 4 ∨ op = 5 ∨ op = 6 ∨ op = 7 ∨ op = 8 ∨ op = 9 ∨ op = 10 ∨ op = 11 := by omega
    rcases hops with rfl | rfl | rfl | rfl | rfl | rfl | rfl | rfl | rfl | rfl | rfl | rfl
    · obtain rfl : kids = [] := List.length_eq_zero_iff.1 (by have h := HKL.out; rw [show kidC 0 = 0 from rfl] at h; omega)
      cases nt
      · have HP : Hid (plainT (.mk 0 nn []) false = .mk 0 0 []) := by simp [Hid, plainT, leafT]
        go_enter Tryd.func57, Tryd.ntmps57
        go_wp2
        refine bodyPost_ret (v := .agg #[.int .i64 0, .int .i64 0, .slice none 0 0]) (by simp [results, Tryd.results57, go_sem]) rfl ⟨_, rfl, ((Kept.refl _ _).alloc _).alloc _, ?_⟩
        rw [HP.out]
        exact RVS.leaf _ _ _ _
      · have HP : Hid (plainT (.mk 0 nn []) true = .mk 1 0 []) := by simp [Hid, plainT, leafT]
        go_enter Tryd.func57, Tryd.ntmps57
        go_wp2
        refine bodyPost_ret (v := .agg #[.int .i64 1, .int .i64 0, .slice none 0 0]) (by simp [results, Tryd.results57, go_sem]) rfl ⟨_, rfl, ((Kept.refl _ _).alloc _).alloc _, ?_⟩
        rw [HP.out]
        exact RVS.leaf _ _ _ _
    · obtain rfl : kids = [] := List.length_eq_zero_iff.1 (by have h := HKL.out; rw [show kidC 1 = 0 from rfl] at h; omega)
      cases nt
      · have HP : Hid (plainT (.mk 1 nn []) false = .mk 1 0 []) := by simp [Hid, plainT, leafT]
        go_enter Tryd.func57, Tryd.ntmps57
        go_wp2
        refine bodyPost_ret (v := .agg #[.int .i64 1, .int .i64 0, .slice none 0 0]) (by simp [results, Tryd.results57, go_sem]) rfl ⟨_, rfl, ((Kept.refl _ _).alloc _).alloc _, ?_⟩
        rw [HP.out]
        exact RVS.leaf _ _ _ _
      · have HP : Hid (plainT (.mk 1 nn []) true = .mk 0 0 []) := by simp [Hid, plainT, leafT]
        go_enter Tryd.func57, Tryd.ntmps57
        go_wp2
        refine bodyPost_ret (v := .agg #[.int .i64 0, .int .i64 0, .slice none 0 0]) (by simp [results, Tryd.results57, go_sem]) rfl ⟨_, rfl, ((Kept.refl _ _).alloc _).alloc _, ?_⟩
        rw [HP.out]
        exact RVS.leaf _ _ _ _
    · obtain rfl : kids = [] := List.length_eq_zero_iff.1 (by have h := HKL.out; rw [show kidC 2 = 0 from rfl] at h; omega)
      cases nt
      · have HP : Hid (plainT (.mk 2 nn []) false = .mk 2 nn []) := by simp [Hid, plainT]
        go_enter Tryd.func57, Tryd.ntmps57
        go_wp2
        refine bodyPost_ret (v := .agg #[.int .i64 2, .int .i64 nn, .slice none 0 0]) (by simp [results, Tryd.results57, go_sem]) rfl ⟨_, rfl, ((Kept.refl _ _).alloc _).alloc _, ?_⟩
        rw [HP.out]
        exact RVS.leaf _ _ _ _
      · have HP : Hid (plainT (.mk 2 nn []) true = .mk 3 0 [.mk 2 nn []]) := by simp [Hid, plainT]
        go_enter Tryd.func57, Tryd.ntmps57
        go_wp2
        obtain ⟨X, hX⟩ : ∃ X, X = ((w.alloc (.cells #[.int .i64 2, .int .i64 nn, .slice ka 0 kc] 30)).alloc (.cells #[.int .i64 3, .int .i64 0, .slice (some ⟨w.heap.size + 1 + 1, 0, none⟩) 1 1] 30)) := ⟨_, rfl⟩
        have kX : Kept (fun _ => False) w X := by rw [hX]; exact ((Kept.refl _ _).alloc _).alloc _
        have hs : X.heap.size = w.heap.size + 1 + 1 := by rw [hX]; simp
        refine bodyPost_ret (v := .agg #[.int .i64 3, .int .i64 0, .slice (some ⟨w.heap.size + 1 + 1, 0, none⟩) 1 1]) (by simp [results, Tryd.results57, go_sem]) rfl ?_
        rw [← hX, ← hs, HP.out]
        clear hX
        refine ⟨_, rfl, kX.alloc _, some ⟨X.heap.size, 0, none⟩, X.heap.size, 0, 1, rfl, fun _ => rfl, ⟨⟨kX.size, by simp⟩, ?_, ?_, none, 0, 0, 0, ?_, by simp, trivial⟩, trivial⟩
        all_goals (rw [World.cell?_alloc_at (hn := rfl)]; rfl)
    · obtain ⟨t1, rfl⟩ : ∃ t1, kids = [t1] := List.length_eq_one_iff.1 (by have h := HKL.out; rw [show kidC 3 = 1 from rfl] at h; omega)
      have hka := HKA.out (by simp)
      subst hka
      have ht1 : t1.well := HKW.out.1
      have hs1 : t1.size ≤ N := by simp only [Tr.sizes] at hsz; omega
      obtain ⟨W0, hW0⟩ : ∃ W0, W0 = ((w.alloc (.cells #[.int .i64 3, .int .i64 nn, .slice (some ⟨kb, ko, none⟩) 1 kc] 30)).alloc (.cells #[.int .i64 0, .int .i64 0, .slice none 0 0] 30)) := ⟨_, rfl⟩
      have k0 : Kept (fun _ => False) w W0 := by rw [hW0]; exact ((Kept.refl _ _).alloc _).alloc _
      have x0 : Wb3 W0 w.heap.size (.int .i64 3) (.int .i64 nn) (.slice (some ⟨kb, ko, none⟩) 1 kc) := by rw [hW0]; exact (Wb3.new w _ _ _ 30).kept ((Kept.refl _ _).alloc _)
      have r0 : Wb3 W0 (w.heap.size + 1) (.int .i64 0) (.int .i64 0) (.slice none 0 0) := by
        rw [hW0]
        have h := Wb3.new (w.alloc (.cells #[.int .i64 3, .int .i64 nn, .slice (some ⟨kb, ko, none⟩) 1 kc] 30)) (.int .i64 0) (.int .i64 0) (.slice none 0 0) 30
        simpa using h
      have R0 : Hid (Wb3 W0 (w.heap.size + 1) (.int .i64 0) (.int .i64 0) (.slice none 0 0)) := r0
      have X0 : Hid (Wb3 W0 w.heap.size (.int .i64 3) (.int .i64 nn) (.slice (some ⟨kb, ko, none⟩) 1 kc)) := x0
      have hr0 : w.heap.size + 1 < W0.heap.size := r0.1
      obtain ⟨_, ⟨x00, x01, x02⟩, _⟩ := x0
      clear r0
      obtain ⟨o1, n1, ks1⟩ := t1
      obtain ⟨ka1, kc1, s0, s1, s2, hv1⟩ := (RsAt.below (k0.below (Nat.le_refl _) (fun _ f => f.elim)) HKS.out).1.val
      have HV1 : Hid (RV W0.heap.size W0 (.agg #[.int .i64 o1, .int .i64 n1, .slice ka1 ks1.length kc1]) (.mk o1 n1 ks1)) := hv1.mono k0.size
      clear hv1
      go_enter Tryd.func57, Tryd.ntmps57
      go_upto_region 1 with fail
      rw [← hW0]
      clear hW0
      have HP : Hid (plainT (.mk 3 nn [.mk o1 n1 ks1]) nt = plainT (.mk o1 n1 ks1) (!nt)) := by simp [Hid, plainT]
      go_wp2_with (go_at_call 57; refine (IH.out (.mk o1 n1 ks1) hs1 ht1 _ _ (!nt) HV1.out).mono ?_; rintro e w1 ⟨v', rfl, k1, hF1⟩; obtain ⟨oA, nA, aA, lA, cA, rfl⟩ := hF1.agg; obtain ⟨_, ⟨r10, r11, r12⟩, r13, r14, r15⟩ := R0.out.kept k1; have HF1 : Hid (RVS (fun b => W0.heap.size ≤ b ∧ b < w1.heap.size) w1 (.agg #[.int .i64 oA, .int .i64 nA, .slice aA lA cA]) (plainT (.mk o1 n1 ks1) (!nt))) := hF1; clear hF1)
      have hf := fin57 (x := .int .i64 oA) (y := .int .i64 nA) (z := .slice aA lA cA) (r := w.heap.size + 1) (k0.trans k1 (fun _ _ f => f)) (by omega) hr0 HF1.out
      refine bodyPost_ret (v := .agg #[.int .i64 oA, .int .i64 nA, .slice aA lA cA]) (by simp [results, Tryd.results57, go_sem, r10, r11, r12]) rfl ⟨_, rfl, hf.1, ?_⟩
      rw [HP.out]
      exact hf.2
    · obtain ⟨t1, t2, rfl⟩ : ∃ t1 t2, kids = [t1, t2] := len_two (by have h := HKL.out; rw [show kidC 4 = 2 from rfl] at h; omega)
      have hka := HKA.out (by simp)
      subst hka
      have ht1 : t1.well := HKW.out.1
      have ht2 : t2.well := HKW.out.2.1
      have hs1 : t1.size ≤ N := by simp only [Tr.sizes] at hsz; omega
      have hs2 : t2.size ≤ N := by simp only [Tr.sizes] at hsz; omega
      obtain ⟨W0, hW0⟩ : ∃ W0, W0 = ((w.alloc (.cells #[.int .i64 4, .int .i64 nn, .slice (some ⟨kb, ko, none⟩) 2 kc] 30)).alloc (.cells #[.int .i64 0, .int .i64 0, .slice none 0 0] 30)) := ⟨_, rfl⟩
      have k0 : Kept (fun _ => False) w W0 := by rw [hW0]; exact ((Kept.refl _ _).alloc _).alloc _
      have x0 : Wb3 W0 w.heap.size (.int .i64 4) (.int .i64 nn) (.slice (some ⟨kb, ko, none⟩) 2 kc) := by rw [hW0]; exact (Wb3.new w _ _ _ 30).kept ((Kept.refl _ _).alloc _)
      have r0 : Wb3 W0 (w.heap.size + 1) (.int .i64 0) (.int .i64 0) (.slice none 0 0) := by
        rw [hW0]
        have h := Wb3.new (w.alloc (.cells #[.int .i64 4, .int .i64 nn, .slice (some ⟨kb, ko, none⟩) 2 kc] 30)) (.int .i64 0) (.int .i64 0) (.slice none 0 0) 30
        simpa using h
      have R0 : Hid (Wb3 W0 (w.heap.size + 1) (.int .i64 0) (.int .i64 0) (.slice none 0 0)) := r0
      have X0 : Hid (Wb3 W0 w.heap.size (.int .i64 4) (.int .i64 nn) (.slice (some ⟨kb, ko, none⟩) 2 kc)) := x0
      have hr0 : w.heap.size + 1 < W0.heap.size := r0.1
      obtain ⟨_, ⟨x00, x01, x02⟩, _⟩ := x0
      clear r0
      obtain ⟨o1, n1, ks1⟩ := t1
      obtain ⟨o2, n2, ks2⟩ := t2
      obtain ⟨ka1, kc1, s0, s1, s2, hv1⟩ := HKS.out.1.val
      obtain ⟨ka2, kc2, s3, s4, s5, hv2⟩ := HKS.out.2.1.val
      have HV1 : Hid (RV w.heap.size w (.agg #[.int .i64 o1, .int .i64 n1, .slice ka1 ks1.length kc1]) (.mk o1 n1 ks1)) := hv1
      have HV2 : Hid (RV w.heap.size w (.agg #[.int .i64 o2, .int .i64 n2, .slice ka2 ks2.length kc2]) (.mk o2 n2 ks2)) := hv2
      have SC : Hid (∀ W, Kept (fun _ => False) w W → (W.cell? ⟨kb, ko, none⟩ = some (.int .i64 o1) ∧ W.cell? ⟨kb, ko + 1, none⟩ = some (.int .i64 n1) ∧ W.cell? ⟨kb, ko + 2, none⟩ = some (.slice ka1 ks1.length kc1)) ∧ W.cell? ⟨kb, ko + 3, none⟩ = some (.int .i64 o2) ∧ W.cell? ⟨kb, ko + 3 + 1, none⟩ = some (.int .i64 n2) ∧ W.cell? ⟨kb, ko + 3 + 2, none⟩ = some (.slice ka2 ks2.length kc2)) := fun W hk => ⟨⟨(hk.cell (lt_of_cell s0) (fun f => f)).trans s0, (hk.cell (lt_of_cell s1) (fun f => f)).trans s1, (hk.cell (lt_of_cell s2) (fun f => f)).trans s2⟩, (hk.cell (lt_of_cell s3) (fun f => f)).trans s3, (hk.cell (lt_of_cell s4) (fun f => f)).trans s4, (hk.cell (lt_of_cell s5) (fun f => f)).trans s5⟩
      clear hv1 hv2 s0 s1 s2 s3 s4 s5
      cases nt
      · have HP : Hid (plainT (.mk 4 nn [.mk o1 n1 ks1, .mk o2 n2 ks2]) false = binT 4 (plainT (.mk o1 n1 ks1) false) (plainT (.mk o2 n2 ks2) false)) := by simp [Hid, plainT]
        go_enter Tryd.func57, Tryd.ntmps57
        go_upto_region 1 with fail
        rw [← hW0]
        clear hW0
        go_upto_region 18 with fail
        obtain ⟨W1, hW1⟩ : ∃ W1, W1 = W0.alloc (.cells #[.int .i64 0, .int .i64 0, .slice none 0 0] 30) := ⟨_, rfl⟩
        rw [← hW1]
        have q1 : Kept (fun _ => False) W0 W1 := by rw [hW1]; exact (Kept.refl _ _).alloc _
        have b7 : Wb3 W1 W0.heap.size (.int .i64 0) (.int .i64 0) (.slice none 0 0) := by rw [hW1]; exact Wb3.new W0 _ _ _ 30
        clear hW1
        have kw1 := k0.trans q1 (fun _ _ f => f)
        have x1 := X0.out.kept q1
        have r1 := R0.out.kept q1
        obtain ⟨_, ⟨x10, x11, x12⟩, _⟩ := id x1
        obtain ⟨⟨s0, s1, s2⟩, s3, s4, s5⟩ := SC.out W1 kw1
        clear x00 x01 x02 X0 R0
        go_upto_region 19 with fail
        obtain ⟨W2, hW2⟩ : ∃ W2, W2 = W1.alloc (.cells #[.int .i64 o2, .int .i64 n2, .slice ka2 ks2.length kc2] 30) := ⟨_, rfl⟩
        rw [← hW2]
        have q2 : Kept (fun _ => False) W1 W2 := by rw [hW2]; exact (Kept.refl _ _).alloc _
        have b8 : Wb3 W2 W1.heap.size (.int .i64 o2) (.int .i64 n2) (.slice ka2 ks2.length kc2) := by rw [hW2]; exact Wb3.new W1 _ _ _ 30
        clear hW2
        have kw2 := kw1.trans q2 (fun _ _ f => f)
        have x2 := x1.kept q2
        have r2 := r1.kept q2
        have b72 := b7.kept q2
        obtain ⟨_, ⟨x20, x21, x22⟩, _⟩ := id x2
        obtain ⟨_, ⟨c70, c71, c72⟩, c73, c74, c75⟩ := id b72
        have e7 : W0.heap.size < W1.heap.size := b7.1
        clear s0 s1 s2 s3 s4 s5
        obtain ⟨⟨s0, s1, s2⟩, _, _, _⟩ := SC.out W2 kw2
        clear x10 x11 x12 x1 r1 b7
        go_upto_region 21 with fail
        obtain ⟨W3, hW3⟩ : ∃ W3, W3 = (((W2.setCell ⟨W0.heap.size, 0, none⟩ (.int .i64 o1)).setCell ⟨W0.heap.size, 1, none⟩ (.int .i64 n1)).setCell ⟨W0.heap.size, 2, none⟩ (.slice ka1 ks1.length kc1)) := ⟨_, rfl⟩
        rw [← hW3]
        have hk0 := k0.size
        have hq1 := q1.size
        have hq2 := q2.size
        have x3 : Wb3 W3 w.heap.size (.int .i64 4) (.int .i64 nn) (.slice (some ⟨kb, ko, none⟩) 2 kc) := by rw [hW3]; exact x2.other3 (by omega) _ _ _
        have r3 : Wb3 W3 (w.heap.size + 1) (.int .i64 0) (.int .i64 0) (.slice none 0 0) := by rw [hW3]; exact r2.other3 (by omega) _ _ _
        have b73 : Wb3 W3 W0.heap.size (.int .i64 o1) (.int .i64 n1) (.slice ka1 ks1.length kc1) := by rw [hW3]; exact b72.store _ _ _
        have b83 : Wb3 W3 W1.heap.size (.int .i64 o2) (.int .i64 n2) (.slice ka2 ks2.length kc2) := by rw [hW3]; exact b8.other3 (by omega) _ _ _
        have kw3 : Kept (fun _ => False) w W3 := by rw [hW3]; exact kept3 kw2 hk0 _ _ _
        have e3 : W3.heap.size = W2.heap.size := by rw [hW3]; simp [World.setCell]
        have HR7 : Hid (RV W3.heap.size W3 (.agg #[.int .i64 o1, .int .i64 n1, .slice ka1 ks1.length kc1]) (.mk o1 n1 ks1)) := HV1.out.kept kw3
        have KW3 : Hid (Kept (fun _ => False) w W3) := kw3
        have hr3 : w.heap.size + 1 < W3.heap.size := r3.1
        have e8 : W1.heap.size < W3.heap.size := b83.1
        clear hW3 x20 x21 x22 c70 c71 c72 c73 c74 c75 s0 s1 s2 x2 r2 b72 b8 kw2 kw1 q1 q2 SC kw3
        obtain ⟨_, ⟨c70, c71, c72⟩, _⟩ := id b73
        go_upto_region 22 with (go_at_call 57; refine (IH.out (.mk o1 n1 ks1) hs1 ht1 _ _ false HR7.out).mono ?_; rintro e w4 ⟨v', rfl, k4, hF4⟩; obtain ⟨oA, nA, aA, lA, cA, rfl⟩ := hF4.agg)
        obtain ⟨W4, hW4⟩ : ∃ W4, W4 = w4.alloc (.cells #[.int .i64 oA, .int .i64 nA, .slice aA lA cA] 30) := ⟨_, rfl⟩
        rw [← hW4]
        have q4 : Kept (fun _ => False) w4 W4 := by rw [hW4]; exact (Kept.refl _ _).alloc _
        have b94 : Wb3 W4 w4.heap.size (.int .i64 oA) (.int .i64 nA) (.slice aA lA cA) := by rw [hW4]; exact Wb3.new w4 _ _ _ 30
        clear hW4
        have k34 := k4.trans q4 (fun _ _ f => f)
        have kw4 := KW3.out.trans k34 (fun _ _ f => f)
        have r4 := r3.kept k34
        have b74 := b73.kept k34
        have b84 := b83.kept k34
        have RA : Hid (RVS (fun b => W3.heap.size ≤ b ∧ b < w4.heap.size) W4 (.agg #[.int .i64 oA, .int .i64 nA, .slice aA lA cA]) (plainT (.mk o1 n1 ks1) false)) := hF4.kept q4 (fun b hb => hb.2)
        have h34 := k4.size
        have h44 : w4.heap.size < W4.heap.size := b94.1
        clear c70 c71 c72 hF4 b73 b83 r3 x3 HR7
        obtain ⟨_, ⟨c70, c71, c72⟩, _⟩ := id b74
        obtain ⟨_, ⟨c80, c81, c82⟩, _⟩ := id b84
        obtain ⟨_, ⟨c90, c91, c92⟩, c93, c94, c95⟩ := id b94
        have b95 := b94
        have r5 := r4
        have HR8 : Hid (RV W4.heap.size W4 (.agg #[.int .i64 o2, .int .i64 n2, .slice ka2 ks2.length kc2]) (.mk o2 n2 ks2)) := HV2.out.kept kw4
        have RA5 : Hid (RVS (fun b => W3.heap.size ≤ b ∧ b < W4.heap.size) W4 (.agg #[.int .i64 oA, .int .i64 nA, .slice aA lA cA]) (plainT (.mk o1 n1 ks1) false)) := RA.out.keep (fun b hb => ⟨hb.1, by omega⟩) (fun _ _ => rfl)
        go_upto_region 31 with fail
        go_upto_region 32 with (go_at_call 57; refine (IH.out (.mk o2 n2 ks2) hs2 ht2 _ _ false HR8.out).mono ?_; rintro e w6 ⟨v', rfl, k6, hF6⟩; obtain ⟨oB, nB, aB, lB, cB, rfl⟩ := hF6.agg)
        obtain ⟨W6, hW6⟩ : ∃ W6, W6 = w6.alloc (.cells #[.int .i64 oB, .int .i64 nB, .slice aB lB cB] 30) := ⟨_, rfl⟩
        rw [← hW6]
        have q6 : Kept (fun _ => False) w6 W6 := by rw [hW6]; exact (Kept.refl _ _).alloc _
        have b106 : Wb3 W6 w6.heap.size (.int .i64 oB) (.int .i64 nB) (.slice aB lB cB) := by rw [hW6]; exact Wb3.new w6 _ _ _ 30
        clear hW6
        have k56 := k6.trans q6 (fun _ _ f => f)
        have r6 := r5.kept k56
        have b96 := b95.kept k56
        have h56 := k56.size
        have h66 := k6.size
        have h67 : w6.heap.size < W6.heap.size := b106.1
        have RA6 : Hid (RVS (fun b => W3.heap.size ≤ b ∧ b < W6.heap.size) W6 (.agg #[.int .i64 oA, .int .i64 nA, .slice aA lA cA]) (plainT (.mk o1 n1 ks1) false)) := (RA5.out.kept k56 (fun b hb => hb.2)).keep (fun b hb => ⟨hb.1, by omega⟩) (fun _ _ => rfl)
        have RB6 : Hid (RVS (fun b => W3.heap.size ≤ b ∧ b < W6.heap.size) W6 (.agg #[.int .i64 oB, .int .i64 nB, .slice aB lB cB]) (plainT (.mk o2 n2 ks2) false)) := (hF6.kept q6 (fun b hb => hb.2)).keep (fun b hb => ⟨by have := hb.1; omega, by have := hb.2; omega⟩) (fun _ _ => rfl)
        have KW6 : Hid (Kept (fun _ => False) w W6) := kw4.trans k56 (fun _ _ f => f)
        have hr6 := r6.1
        clear c70 c71 c72 c80 c81 c82 c90 c91 c92 c93 c94 c95 hF6
        obtain ⟨_, ⟨c90, c91, c92⟩, _⟩ := id b96
        obtain ⟨_, ⟨d00, d01, d02⟩, _⟩ := id b106
        go_wp2_with (first
          | (go_at_call 93; refine (other93 _ _).mono ?_; rintro e w7 ⟨hw7, rfl⟩; rw [hw7]; clear hw7; rw [show otherO 4 = 4 from rfl])
          | (go_at_call 78; refine (two78 (fun b => W3.heap.size ≤ b ∧ b < W6.heap.size) _ 4 _ _ _ _ (fun b hb => hb.2) RA6.out RB6.out).mono ?_; rintro e w8 ⟨v', rfl, k8, hF8⟩; obtain ⟨oC, nC, aC, lC, cC, rfl⟩ := hF8.agg; obtain ⟨_, ⟨r80, r81, r82⟩, r83, r84, r85⟩ := r6.kept k8; have HF8 : Hid (RVS (fun b => W3.heap.size ≤ b ∧ b < w8.heap.size) w8 (.agg #[.int .i64 oC, .int .i64 nC, .slice aC lC cC]) (binT 4 (plainT (.mk o1 n1 ks1) false) (plainT (.mk o2 n2 ks2) false))) := hF8.keep (fun b hb => hb.elim (fun g => ⟨g.1, Nat.lt_of_lt_of_le g.2 k8.size⟩) (fun g => ⟨by have := g.1; omega, g.2⟩)) (fun _ _ => rfl); clear hF8))
        have hf := fin57 (x := .int .i64 oC) (y := .int .i64 nC) (z := .slice aC lC cC) (r := w.heap.size + 1) (KW6.out.trans k8 (fun _ _ f => f)) (by omega) hr3 HF8.out
        refine bodyPost_ret (v := .agg #[.int .i64 oC, .int .i64 nC, .slice aC lC cC]) (by simp [results, Tryd.results57, go_sem, r80, r81, r82]) rfl ⟨_, rfl, hf.1, ?_⟩
        rw [HP.out]
        exact hf.2
      · have HP : Hid (plainT (.mk 4 nn [.mk o1 n1 ks1, .mk o2 n2 ks2]) true = binT 5 (plainT (.mk o1 n1 ks1) true) (plainT (.mk o2 n2 ks2) true)) := by simp [Hid, plainT, otherO]
        go_enter Tryd.func57, Tryd.ntmps57
        go_upto_region 1 with fail
        rw [← hW0]
        clear hW0
        go_upto_region 18 with fail
        obtain ⟨W1, hW1⟩ : ∃ W1, W1 = W0.alloc (.cells #[.int .i64 0, .int .i64 0, .slice none 0 0] 30) := ⟨_, rfl⟩
        rw [← hW1]
        have q1 : Kept (fun _ => False) W0 W1 := by rw [hW1]; exact (Kept.refl _ _).alloc _
        have b7 : Wb3 W1 W0.heap.size (.int .i64 0) (.int .i64 0) (.slice none 0 0) := by rw [hW1]; exact Wb3.new W0 _ _ _ 30
        clear hW1
        have kw1 := k0.trans q1 (fun _ _ f => f)
        have x1 := X0.out.kept q1
        have r1 := R0.out.kept q1
        obtain ⟨_, ⟨x10, x11, x12⟩, _⟩ := id x1
        obtain ⟨⟨s0, s1, s2⟩, s3, s4, s5⟩ := SC.out W1 kw1
        clear x00 x01 x02 X0 R0
        go_upto_region 19 with fail
        obtain ⟨W2, hW2⟩ : ∃ W2, W2 = W1.alloc (.cells #[.int .i64 o2, .int .i64 n2, .slice ka2 ks2.length kc2] 30) := ⟨_, rfl⟩
        rw [← hW2]
        have q2 : Kept (fun _ => False) W1 W2 := by rw [hW2]; exact (Kept.refl _ _).alloc _
        have b8 : Wb3 W2 W1.heap.size (.int .i64 o2) (.int .i64 n2) (.slice ka2 ks2.length kc2) := by rw [hW2]; exact Wb3.new W1 _ _ _ 30
        clear hW2
        have kw2 := kw1.trans q2 (fun _ _ f => f)
        have x2 := x1.kept q2
        have r2 := r1.kept q2
        have b72 := b7.kept q2
        obtain ⟨_, ⟨x20, x21, x22⟩, _⟩ := id x2
        obtain ⟨_, ⟨c70, c71, c72⟩, c73, c74, c75⟩ := id b72
        have e7 : W0.heap.size < W1.heap.size := b7.1
        clear s0 s1 s2 s3 s4 s5
        obtain ⟨⟨s0, s1, s2⟩, _, _, _⟩ := SC.out W2 kw2
        clear x10 x11 x12 x1 r1 b7
        go_upto_region 21 with fail
        obtain ⟨W3, hW3⟩ : ∃ W3, W3 = (((W2.setCell ⟨W0.heap.size, 0, none⟩ (.int .i64 o1)).setCell ⟨W0.heap.size, 1, none⟩ (.int .i64 n1)).setCell ⟨W0.heap.size, 2, none⟩ (.slice ka1 ks1.length kc1)) := ⟨_, rfl⟩
        rw [← hW3]
        have hk0 := k0.size
        have hq1 := q1.size
        have hq2 := q2.size
        have x3 : Wb3 W3 w.heap.size (.int .i64 4) (.int .i64 nn) (.slice (some ⟨kb, ko, none⟩) 2 kc) := by rw [hW3]; exact x2.other3 (by omega) _ _ _
        have r3 : Wb3 W3 (w.heap.size + 1) (.int .i64 0) (.int .i64 0) (.slice none 0 0) := by rw [hW3]; exact r2.other3 (by omega) _ _ _
        have b73 : Wb3 W3 W0.heap.size (.int .i64 o1) (.int .i64 n1) (.slice ka1 ks1.length kc1) := by rw [hW3]; exact b72.store _ _ _
        have b83 : Wb3 W3 W1.heap.size (.int .i64 o2) (.int .i64 n2) (.slice ka2 ks2.length kc2) := by rw [hW3]; exact b8.other3 (by omega) _ _ _
        have kw3 : Kept (fun _ => False) w W3 := by rw [hW3]; exact kept3 kw2 hk0 _ _ _
        have e3 : W3.heap.size = W2.heap.size := by rw [hW3]; simp [World.setCell]
        have HR7 : Hid (RV W3.heap.size W3 (.agg #[.int .i64 o1, .int .i64 n1, .slice ka1 ks1.length kc1]) (.mk o1 n1 ks1)) := HV1.out.kept kw3
        have KW3 : Hid (Kept (fun _ => False) w W3) := kw3
        have hr3 : w.heap.size + 1 < W3.heap.size := r3.1
        have e8 : W1.heap.size < W3.heap.size := b83.1
        clear hW3 x20 x21 x22 c70 c71 c72 c73 c74 c75 s0 s1 s2 x2 r2 b72 b8 kw2 kw1 q1 q2 SC kw3
        obtain ⟨_, ⟨c70, c71, c72⟩, _⟩ := id b73
        go_upto_region 22 with (go_at_call 57; refine (IH.out (.mk o1 n1 ks1) hs1 ht1 _ _ true HR7.out).mono ?_; rintro e w4 ⟨v', rfl, k4, hF4⟩; obtain ⟨oA, nA, aA, lA, cA, rfl⟩ := hF4.agg)
        obtain ⟨W4, hW4⟩ : ∃ W4, W4 = w4.alloc (.cells #[.int .i64 oA, .int .i64 nA, .slice aA lA cA] 30) := ⟨_, rfl⟩
        rw [← hW4]
        have q4 : Kept (fun _ => False) w4 W4 := by rw [hW4]; exact (Kept.refl _ _).alloc _
        have b94 : Wb3 W4 w4.heap.size (.int .i64 oA) (.int .i64 nA) (.slice aA lA cA) := by rw [hW4]; exact Wb3.new w4 _ _ _ 30
        clear hW4
        have k34 := k4.trans q4 (fun _ _ f => f)
        have kw4 := KW3.out.trans k34 (fun _ _ f => f)
        have r4 := r3.kept k34
        have b74 := b73.kept k34
        have b84 := b83.kept k34
        have RA : Hid (RVS (fun b => W3.heap.size ≤ b ∧ b < w4.heap.size) W4 (.agg #[.int .i64 oA, .int .i64 nA, .slice aA lA cA]) (plainT (.mk o1 n1 ks1) true)) := hF4.kept q4 (fun b hb => hb.2)
        have h34 := k4.size
        have h44 : w4.heap.size < W4.heap.size := b94.1
        clear c70 c71 c72 hF4 b73 b83 r3 x3 HR7
        obtain ⟨_, ⟨c70, c71, c72⟩, _⟩ := id b74
        obtain ⟨_, ⟨c80, c81, c82⟩, _⟩ := id b84
        obtain ⟨_, ⟨c90, c91, c92⟩, c93, c94, c95⟩ := id b94
        have b95 := b94
        have r5 := r4
        have HR8 : Hid (RV W4.heap.size W4 (.agg #[.int .i64 o2, .int .i64 n2, .slice ka2 ks2.length kc2]) (.mk o2 n2 ks2)) := HV2.out.kept kw4
        have RA5 : Hid (RVS (fun b => W3.heap.size ≤ b ∧ b < W4.heap.size) W4 (.agg #[.int .i64 oA, .int .i64 nA, .slice aA lA cA]) (plainT (.mk o1 n1 ks1) true)) := RA.out.keep (fun b hb => ⟨hb.1, by omega⟩) (fun _ _ => rfl)
        go_upto_region 31 with fail
        go_upto_region 32 with (go_at_call 57; refine (IH.out (.mk o2 n2 ks2) hs2 ht2 _ _ true HR8.out).mono ?_; rintro e w6 ⟨v', rfl, k6, hF6⟩; obtain ⟨oB, nB, aB, lB, cB, rfl⟩ := hF6.agg)
        obtain ⟨W6, hW6⟩ : ∃ W6, W6 = w6.alloc (.cells #[.int .i64 oB, .int .i64 nB, .slice aB lB cB] 30) := ⟨_, rfl⟩
        rw [← hW6]
        have q6 : Kept (fun _ => False) w6 W6 := by rw [hW6]; exact (Kept.refl _ _).alloc _
        have b106 : Wb3 W6 w6.heap.size (.int .i64 oB) (.int .i64 nB) (.slice aB lB cB) := by rw [hW6]; exact Wb3.new w6 _ _ _ 30
        clear hW6
        have k56 := k6.trans q6 (fun _ _ f => f)
        have r6 := r5.kept k56
        have b96 := b95.kept k56
        have h56 := k56.size
        have h66 := k6.size
        have h67 : w6.heap.size < W6.heap.size := b106.1
        have RA6 : Hid (RVS (fun b => W3.heap.size ≤ b ∧ b < W6.heap.size) W6 (.agg #[.int .i64 oA, .int .i64 nA, .slice aA lA cA]) (plainT (.mk o1 n1 ks1) true)) := (RA5.out.kept k56 (fun b hb => hb.2)).keep (fun b hb => ⟨hb.1, by omega⟩) (fun _ _ => rfl)
        have RB6 : Hid (RVS (fun b => W3.heap.size ≤ b ∧ b < W6.heap.size) W6 (.agg #[.int .i64 oB, .int .i64 nB, .slice aB lB cB]) (plainT (.mk o2 n2 ks2) true)) := (hF6.kept q6 (fun b hb => hb.2)).keep (fun b hb => ⟨by have := hb.1; omega, by have := hb.2; omega⟩) (fun _ _ => rfl)
        have KW6 : Hid (Kept (fun _ => False) w W6) := kw4.trans k56 (fun _ _ f => f)
        have hr6 := r6.1
        clear c70 c71 c72 c80 c81 c82 c90 c91 c92 c93 c94 c95 hF6
        obtain ⟨_, ⟨c90, c91, c92⟩, _⟩ := id b96
        obtain ⟨_, ⟨d00, d01, d02⟩, _⟩ := id b106
        go_wp2_with (first
          | (go_at_call 93; refine (other93 _ _).mono ?_; rintro e w7 ⟨hw7, rfl⟩; rw [hw7]; clear hw7; rw [show otherO 4 = 5 from rfl])
          | (go_at_call 78; refine (two78 (fun b => W3.heap.size ≤ b ∧ b < W6.heap.size) _ 5 _ _ _ _ (fun b hb => hb.2) RA6.out RB6.out).mono ?_; rintro e w8 ⟨v', rfl, k8, hF8⟩; obtain ⟨oC, nC, aC, lC, cC, rfl⟩ := hF8.agg; obtain ⟨_, ⟨r80, r81, r82⟩, r83, r84, r85⟩ := r6.kept k8; have HF8 : Hid (RVS (fun b => W3.heap.size ≤ b ∧ b < w8.heap.size) w8 (.agg #[.int .i64 oC, .int .i64 nC, .slice aC lC cC]) (binT 5 (plainT (.mk o1 n1 ks1) true) (plainT (.mk o2 n2 ks2) true))) := hF8.keep (fun b hb => hb.elim (fun g => ⟨g.1, Nat.lt_of_lt_of_le g.2 k8.size⟩) (fun g => ⟨by have := g.1; omega, g.2⟩)) (fun _ _ => rfl); clear hF8))
        have hf := fin57 (x := .int .i64 oC) (y := .int .i64 nC) (z := .slice aC lC cC) (r := w.heap.size + 1) (KW6.out.trans k8 (fun _ _ f => f)) (by omega) hr3 HF8.out
        refine bodyPost_ret (v := .agg #[.int .i64 oC, .int .i64 nC, .slice aC lC cC]) (by simp [results, Tryd.results57, go_sem, r80, r81, r82]) rfl ⟨_, rfl, hf.1, ?_⟩
        rw [HP.out]
        exact hf.2
    · obtain ⟨t1, t2, rfl⟩ : ∃ t1 t2, kids = [t1, t2] := len_two (by have h := HKL.out; rw [show kidC 5 = 2 from rfl] at h; omega)
      have hka := HKA.out (by simp)
      subst hka
      have ht1 : t1.well := HKW.out.1
      have ht2 : t2.well := HKW.out.2.1
      have hs1 : t1.size ≤ N := by simp only [Tr.sizes] at hsz; omega
      have hs2 : t2.size ≤ N := by simp only [Tr.sizes] at hsz; omega
      obtain ⟨W0, hW0⟩ : ∃ W0, W0 = ((w.alloc (.cells #[.int .i64 5, .int .i64 nn, .slice (some ⟨kb, ko, none⟩) 2 kc] 30)).alloc (.cells #[.int .i64 0, .int .i64 0, .slice none 0 0] 30)) := ⟨_, rfl⟩
      have k0 : Kept (fun _ => False) w W0 := by rw [hW0]; exact ((Kept.refl _ _).alloc _).alloc _
      have x0 : Wb3 W0 w.heap.size (.int .i64 5) (.int .i64 nn) (.slice (some ⟨kb, ko, none⟩) 2 kc) := by rw [hW0]; exact (Wb3.new w _ _ _ 30).kept ((Kept.refl _ _).alloc _)
      have r0 : Wb3 W0 (w.heap.size + 1) (.int .i64 0) (.int .i64 0) (.slice none 0 0) := by
        rw [hW0]
        have h := Wb3.new (w.alloc (.cells #[.int .i64 5, .int .i64 nn, .slice (some ⟨kb, ko, none⟩) 2 kc] 30)) (.int .i64 0) (.int .i64 0) (.slice none 0 0) 30
        simpa using h
      have R0 : Hid (Wb3 W0 (w.heap.size + 1) (.int .i64 0) (.int .i64 0) (.slice none 0 0)) := r0
      have X0 : Hid (Wb3 W0 w.heap.size (.int .i64 5) (.int .i64 nn) (.slice (some ⟨kb, ko, none⟩) 2 kc)) := x0
      have hr0 : w.heap.size + 1 < W0.heap.size := r0.1
      obtain ⟨_, ⟨x00, x01, x02⟩, _⟩ := x0
      clear r0
      obtain ⟨o1, n1, ks1⟩ := t1
      obtain ⟨o2, n2, ks2⟩ := t2
      obtain ⟨ka1, kc1, s0, s1, s2, hv1⟩ := HKS.out.1.val
      obtain ⟨ka2, kc2, s3, s4, s5, hv2⟩ := HKS.out.2.1.val
      have HV1 : Hid (RV w.heap.size w (.agg #[.int .i64 o1, .int .i64 n1, .slice ka1 ks1.length kc1]) (.mk o1 n1 ks1)) := hv1
      have HV2 : Hid (RV w.heap.size w (.agg #[.int .i64 o2, .int .i64 n2, .slice ka2 ks2.length kc2]) (.mk o2 n2 ks2)) := hv2
      have SC : Hid (∀ W, Kept (fun _ => False) w W → (W.cell? ⟨kb, ko, none⟩ = some (.int .i64 o1) ∧ W.cell? ⟨kb, ko + 1, none⟩ = some (.int .i64 n1) ∧ W.cell? ⟨kb, ko + 2, none⟩ = some (.slice ka1 ks1.length kc1)) ∧ W.cell? ⟨kb, ko + 3, none⟩ = some (.int .i64 o2) ∧ W.cell? ⟨kb, ko + 3 + 1, none⟩ = some (.int .i64 n2) ∧ W.cell? ⟨kb, ko + 3 + 2, none⟩ = some (.slice ka2 ks2.length kc2)) := fun W hk => ⟨⟨(hk.cell (lt_of_cell s0) (fun f => f)).trans s0, (hk.cell (lt_of_cell s1) (fun f => f)).trans s1, (hk.cell (lt_of_cell s2) (fun f => f)).trans s2⟩, (hk.cell (lt_of_cell s3) (fun f => f)).trans s3, (hk.cell (lt_of_cell s4) (fun f => f)).trans s4, (hk.cell (lt_of_cell s5) (fun f => f)).trans s5⟩
      clear hv1 hv2 s0 s1 s2 s3 s4 s5
      cases nt
      · have HP : Hid (plainT (.mk 5 nn [.mk o1 n1 ks1, .mk o2 n2 ks2]) false = binT 5 (plainT (.mk o1 n1 ks1) false) (plainT (.mk o2 n2 ks2) false)) := by simp [Hid, plainT]
        go_enter Tryd.func57, Tryd.ntmps57
        go_upto_region 1 with fail
        rw [← hW0]
        clear hW0
        go_upto_region 18 with fail
        obtain ⟨W1, hW1⟩ : ∃ W1, W1 = W0.alloc (.cells #[.int .i64 0, .int .i64 0, .slice none 0 0] 30) := ⟨_, rfl⟩
        rw [← hW1]
        have q1 : Kept (fun _ => False) W0 W1 := by rw [hW1]; exact (Kept.refl _ _).alloc _
        have b7 : Wb3 W1 W0.heap.size (.int .i64 0) (.int .i64 0) (.slice none 0 0) := by rw [hW1]; exact Wb3.new W0 _ _ _ 30
        clear hW1
        have kw1 := k0.trans q1 (fun _ _ f => f)
        have x1 := X0.out.kept q1
        have r1 := R0.out.kept q1
        obtain ⟨_, ⟨x10, x11, x12⟩, _⟩ := id x1
        obtain ⟨⟨s0, s1, s2⟩, s3, s4, s5⟩ := SC.out W1 kw1
        clear x00 x01 x02 X0 R0
        go_upto_region 19 with fail
        obtain ⟨W2, hW2⟩ : ∃ W2, W2 = W1.alloc (.cells #[.int .i64 o2, .int .i64 n2, .slice ka2 ks2.length kc2] 30) := ⟨_, rfl⟩
        rw [← hW2]
        have q2 : Kept (fun _ => False) W1 W2 := by rw [hW2]; exact (Kept.refl _ _).alloc _
        have b8 : Wb3 W2 W1.heap.size (.int .i64 o2) (.int .i64 n2) (.slice ka2 ks2.length kc2) := by rw [hW2]; exact Wb3.new W1 _ _ _ 30
        clear hW2
        have kw2 := kw1.trans q2 (fun _ _ f => f)
        have x2 := x1.kept q2
        have r2 := r1.kept q2
        have b72 := b7.kept q2
        obtain ⟨_, ⟨x20, x21, x22⟩, _⟩ := id x2
        obtain ⟨_, ⟨c70, c71, c72⟩, c73, c74, c75⟩ := id b72
        have e7 : W0.heap.size < W1.heap.size := b7.1
        clear s0 s1 s2 s3 s4 s5
        obtain ⟨⟨s0, s1, s2⟩, _, _, _⟩ := SC.out W2 kw2
        clear x10 x11 x12 x1 r1 b7
        go_upto_region 21 with fail
        obtain ⟨W3, hW3⟩ : ∃ W3, W3 = (((W2.setCell ⟨W0.heap.size, 0, none⟩ (.int .i64 o1)).setCell ⟨W0.heap.size, 1, none⟩ (.int .i64 n1)).setCell ⟨W0.heap.size, 2, none⟩ (.slice ka1 ks1.length kc1)) := ⟨_, rfl⟩
        rw [← hW3]
        have hk0 := k0.size
        have hq1 := q1.size
        have hq2 := q2.size
        have x3 : Wb3 W3 w.heap.size (.int .i64 5) (.int .i64 nn) (.slice (some ⟨kb, ko, none⟩) 2 kc) := by rw [hW3]; exact x2.other3 (by omega) _ _ _
        have r3 : Wb3 W3 (w.heap.size + 1) (.int .i64 0) (.int .i64 0) (.slice none 0 0) := by rw [hW3]; exact r2.other3 (by omega) _ _ _
        have b73 : Wb3 W3 W0.heap.size (.int .i64 o1) (.int .i64 n1) (.slice ka1 ks1.length kc1) := by rw [hW3]; exact b72.store _ _ _
        have b83 : Wb3 W3 W1.heap.size (.int .i64 o2) (.int .i64 n2) (.slice ka2 ks2.length kc2) := by rw [hW3]; exact b8.other3 (by omega) _ _ _
        have kw3 : Kept (fun _ => False) w W3 := by rw [hW3]; exact kept3 kw2 hk0 _ _ _
        have e3 : W3.heap.size = W2.heap.size := by rw [hW3]; simp [World.setCell]
        have HR7 : Hid (RV W3.heap.size W3 (.agg #[.int .i64 o1, .int .i64 n1, .slice ka1 ks1.length kc1]) (.mk o1 n1 ks1)) := HV1.out.kept kw3
        have KW3 : Hid (Kept (fun _ => False) w W3) := kw3
        have hr3 : w.heap.size + 1 < W3.heap.size := r3.1
        have e8 : W1.heap.size < W3.heap.size := b83.1
        clear hW3 x20 x21 x22 c70 c71 c72 c73 c74 c75 s0 s1 s2 x2 r2 b72 b8 kw2 kw1 q1 q2 SC kw3
        obtain ⟨_, ⟨c70, c71, c72⟩, _⟩ := id b73
        go_upto_region 22 with (go_at_call 57; refine (IH.out (.mk o1 n1 ks1) hs1 ht1 _ _ false HR7.out).mono ?_; rintro e w4 ⟨v', rfl, k4, hF4⟩; obtain ⟨oA, nA, aA, lA, cA, rfl⟩ := hF4.agg)
        obtain ⟨W4, hW4⟩ : ∃ W4, W4 = w4.alloc (.cells #[.int .i64 oA, .int .i64 nA, .slice aA lA cA] 30) := ⟨_, rfl⟩
        rw [← hW4]
        have q4 : Kept (fun _ => False) w4 W4 := by rw [hW4]; exact (Kept.refl _ _).alloc _
        have b94 : Wb3 W4 w4.heap.size (.int .i64 oA) (.int .i64 nA) (.slice aA lA cA) := by rw [hW4]; exact Wb3.new w4 _ _ _ 30
        clear hW4
        have k34 := k4.trans q4 (fun _ _ f => f)
        have kw4 := KW3.out.trans k34 (fun _ _ f => f)
        have r4 := r3.kept k34
        have b74 := b73.kept k34
        have b84 := b83.kept k34
        have RA : Hid (RVS (fun b => W3.heap.size ≤ b ∧ b < w4.heap.size) W4 (.agg #[.int .i64 oA, .int .i64 nA, .slice aA lA cA]) (plainT (.mk o1 n1 ks1) false)) := hF4.kept q4 (fun b hb => hb.2)
        have h34 := k4.size
        have h44 : w4.heap.size < W4.heap.size := b94.1
        clear c70 c71 c72 hF4 b73 b83 r3 x3 HR7
        obtain ⟨_, ⟨c70, c71, c72⟩, _⟩ := id b74
        obtain ⟨_, ⟨c80, c81, c82⟩, _⟩ := id b84
        obtain ⟨_, ⟨c90, c91, c92⟩, c93, c94, c95⟩ := id b94
        have b95 := b94
        have r5 := r4
        have HR8 : Hid (RV W4.heap.size W4 (.agg #[.int .i64 o2, .int .i64 n2, .slice ka2 ks2.length kc2]) (.mk o2 n2 ks2)) := HV2.out.kept kw4
        have RA5 : Hid (RVS (fun b => W3.heap.size ≤ b ∧ b < W4.heap.size) W4 (.agg #[.int .i64 oA, .int .i64 nA, .slice aA lA cA]) (plainT (.mk o1 n1 ks1) false)) := RA.out.keep (fun b hb => ⟨hb.1, by omega⟩) (fun _ _ => rfl)
        go_upto_region 31 with fail
        go_upto_region 32 with (go_at_call 57; refine (IH.out (.mk o2 n2 ks2) hs2 ht2 _ _ false HR8.out).mono ?_; rintro e w6 ⟨v', rfl, k6, hF6⟩; obtain ⟨oB, nB, aB, lB, cB, rfl⟩ := hF6.agg)
        obtain ⟨W6, hW6⟩ : ∃ W6, W6 = w6.alloc (.cells #[.int .i64 oB, .int .i64 nB, .slice aB lB cB] 30) := ⟨_, rfl⟩
        rw [← hW6]
        have q6 : Kept (fun _ => False) w6 W6 := by rw [hW6]; exact (Kept.refl _ _).alloc _
        have b106 : Wb3 W6 w6.heap.size (.int .i64 oB) (.int .i64 nB) (.slice aB lB cB) := by rw [hW6]; exact Wb3.new w6 _ _ _ 30
        clear hW6
        have k56 := k6.trans q6 (fun _ _ f => f)
        have r6 := r5.kept k56
        have b96 := b95.kept k56
        have h56 := k56.size
        have h66 := k6.size
        have h67 : w6.heap.size < W6.heap.size := b106.1
        have RA6 : Hid (RVS (fun b => W3.heap.size ≤ b ∧ b < W6.heap.size) W6 (.agg #[.int .i64 oA, .int .i64 nA, .slice aA lA cA]) (plainT (.mk o1 n1 ks1) false)) := (RA5.out.kept k56 (fun b hb => hb.2)).keep (fun b hb => ⟨hb.1, by omega⟩) (fun _ _ => rfl)
        have RB6 : Hid (RVS (fun b => W3.heap.size ≤ b ∧ b < W6.heap.size) W6 (.agg #[.int .i64 oB, .int .i64 nB, .slice aB lB cB]) (plainT (.mk o2 n2 ks2) false)) := (hF6.kept q6 (fun b hb => hb.2)).keep (fun b hb => ⟨by have := hb.1; omega, by have := hb.2; omega⟩) (fun _ _ => rfl)
        have KW6 : Hid (Kept (fun _ => False) w W6) := kw4.trans k56 (fun _ _ f => f)
        have hr6 := r6.1
        clear c70 c71 c72 c80 c81 c82 c90 c91 c92 c93 c94 c95 hF6
        obtain ⟨_, ⟨c90, c91, c92⟩, _⟩ := id b96
        obtain ⟨_, ⟨d00, d01, d02⟩, _⟩ := id b106
        go_wp2_with (first
          | (go_at_call 93; refine (other93 _ _).mono ?_; rintro e w7 ⟨hw7, rfl⟩; rw [hw7]; clear hw7; rw [show otherO 5 = 5 from rfl])
          | (go_at_call 78; refine (two78 (fun b => W3.heap.size ≤ b ∧ b < W6.heap.size) _ 5 _ _ _ _ (fun b hb => hb.2) RA6.out RB6.out).mono ?_; rintro e w8 ⟨v', rfl, k8, hF8⟩; obtain ⟨oC, nC, aC, lC, cC, rfl⟩ := hF8.agg; obtain ⟨_, ⟨r80, r81, r82⟩, r83, r84, r85⟩ := r6.kept k8; have HF8 : Hid (RVS (fun b => W3.heap.size ≤ b ∧ b < w8.heap.size) w8 (.agg #[.int .i64 oC, .int .i64 nC, .slice aC lC cC]) (binT 5 (plainT (.mk o1 n1 ks1) false) (plainT (.mk o2 n2 ks2) false))) := hF8.keep (fun b hb => hb.elim (fun g => ⟨g.1, Nat.lt_of_lt_of_le g.2 k8.size⟩) (fun g => ⟨by have := g.1; omega, g.2⟩)) (fun _ _ => rfl); clear hF8))
        have hf := fin57 (x := .int .i64 oC) (y := .int .i64 nC) (z := .slice aC lC cC) (r := w.heap.size + 1) (KW6.out.trans k8 (fun _ _ f => f)) (by omega) hr3 HF8.out
        refine bodyPost_ret (v := .agg #[.int .i64 oC, .int .i64 nC, .slice aC lC cC]) (by simp [results, Tryd.results57, go_sem, r80, r81, r82]) rfl ⟨_, rfl, hf.1, ?_⟩
        rw [HP.out]
        exact hf.2
      · have HP : Hid (plainT (.mk 5 nn [.mk o1 n1 ks1, .mk o2 n2 ks2]) true = binT 4 (plainT (.mk o1 n1 ks1) true) (plainT (.mk o2 n2 ks2) true)) := by simp [Hid, plainT, otherO]
        go_enter Tryd.func57, Tryd.ntmps57
        go_upto_region 1 with fail
        rw [← hW0]
        clear hW0
        go_upto_region 18 with fail
        obtain ⟨W1, hW1⟩ : ∃ W1, W1 = W0.alloc (.cells #[.int .i64 0, .int .i64 0, .slice none 0 0] 30) := ⟨_, rfl⟩
        rw [← hW1]
        have q1 : Kept (fun _ => False) W0 W1 := by rw [hW1]; exact (Kept.refl _ _).alloc _
        have b7 : Wb3 W1 W0.heap.size (.int .i64 0) (.int .i64 0) (.slice none 0 0) := by rw [hW1]; exact Wb3.new W0 _ _ _ 30
        clear hW1
        have kw1 := k0.trans q1 (fun _ _ f => f)
        have x1 := X0.out.kept q1
        have r1 := R0.out.kept q1
        obtain ⟨_, ⟨x10, x11, x12⟩, _⟩ := id x1
        obtain ⟨⟨s0, s1, s2⟩, s3, s4, s5⟩ := SC.out W1 kw1
        clear x00 x01 x02 X0 R0
        go_upto_region 19 with fail
        obtain ⟨W2, hW2⟩ : ∃ W2, W2 = W1.alloc (.cells #[.int .i64 o2, .int .i64 n2, .slice ka2 ks2.length kc2] 30) := ⟨_, rfl⟩
        rw [← hW2]
        have q2 : Kept (fun _ => False) W1 W2 := by rw [hW2]; exact (Kept.refl _ _).alloc _
        have b8 : Wb3 W2 W1.heap.size (.int .i64 o2) (.int .i64 n2) (.slice ka2 ks2.length kc2) := by rw [hW2]; exact Wb3.new W1 _ _ _ 30
        clear hW2
        have kw2 := kw1.trans q2 (fun _ _ f => f)
        have x2 := x1.kept q2
        have r2 := r1.kept q2
        have b72 := b7.kept q2
        obtain ⟨_, ⟨x20, x21, x22⟩, _⟩ := id x2
        obtain ⟨_, ⟨c70, c71, c72⟩, c73, c74, c75⟩ := id b72
        have e7 : W0.heap.size < W1.heap.size := b7.1
        clear s0 s1 s2 s3 s4 s5
        obtain ⟨⟨s0, s1, s2⟩, _, _, _⟩ := SC.out W2 kw2
        clear x10 x11 x12 x1 r1 b7
        go_upto_region 21 with fail
        obtain ⟨W3, hW3⟩ : ∃ W3, W3 = (((W2.setCell ⟨W0.heap.size, 0, none⟩ (.int .i64 o1)).setCell ⟨W0.heap.size, 1, none⟩ (.int .i64 n1)).setCell ⟨W0.heap.size, 2, none⟩ (.slice ka1 ks1.length kc1)) := ⟨_, rfl⟩
        rw [← hW3]
        have hk0 := k0.size
        have hq1 := q1.size
        have hq2 := q2.size
        have x3 : Wb3 W3 w.heap.size (.int .i64 5) (.int .i64 nn) (.slice (some ⟨kb, ko, none⟩) 2 kc) := by rw [hW3]; exact x2.other3 (by omega) _ _ _
        have r3 : Wb3 W3 (w.heap.size + 1) (.int .i64 0) (.int .i64 0) (.slice none 0 0) := by rw [hW3]; exact r2.other3 (by omega) _ _ _
        have b73 : Wb3 W3 W0.heap.size (.int .i64 o1) (.int .i64 n1) (.slice ka1 ks1.length kc1) := by rw [hW3]; exact b72.store _ _ _
        have b83 : Wb3 W3 W1.heap.size (.int .i64 o2) (.int .i64 n2) (.slice ka2 ks2.length kc2) := by rw [hW3]; exact b8.other3 (by omega) _ _ _
        have kw3 : Kept (fun _ => False) w W3 := by rw [hW3]; exact kept3 kw2 hk0 _ _ _
        have e3 : W3.heap.size = W2.heap.size := by rw [hW3]; simp [World.setCell]
        have HR7 : Hid (RV W3.heap.size W3 (.agg #[.int .i64 o1, .int .i64 n1, .slice ka1 ks1.length kc1]) (.mk o1 n1 ks1)) := HV1.out.kept kw3
        have KW3 : Hid (Kept (fun _ => False) w W3) := kw3
        have hr3 : w.heap.size + 1 < W3.heap.size := r3.1
        have e8 : W1.heap.size < W3.heap.size := b83.1
        clear hW3 x20 x21 x22 c70 c71 c72 c73 c74 c75 s0 s1 s2 x2 r2 b72 b8 kw2 kw1 q1 q2 SC kw3
        obtain ⟨_, ⟨c70, c71, c72⟩, _⟩ := id b73
        go_upto_region 22 with (go_at_call 57; refine (IH.out (.mk o1 n1 ks1) hs1 ht1 _ _ true HR7.out).mono ?_; rintro e w4 ⟨v', rfl, k4, hF4⟩; obtain ⟨oA, nA, aA, lA, cA, rfl⟩ := hF4.agg)
        obtain ⟨W4, hW4⟩ : ∃ W4, W4 = w4.alloc (.cells #[.int .i64 oA, .int .i64 nA, .slice aA lA cA] 30) := ⟨_, rfl⟩
        rw [← hW4]
        have q4 : Kept (fun _ => False) w4 W4 := by rw [hW4]; exact (Kept.refl _ _).alloc _
        have b94 : Wb3 W4 w4.heap.size (.int .i64 oA) (.int .i64 nA) (.slice aA lA cA) := by rw [hW4]; exact Wb3.new w4 _ _ _ 30
        clear hW4
        have k34 := k4.trans q4 (fun _ _ f => f)
        have kw4 := KW3.out.trans k34 (fun _ _ f => f)
        have r4 := r3.kept k34
        have b74 := b73.kept k34
        have b84 := b83.kept k34
        have RA : Hid (RVS (fun b => W3.heap.size ≤ b ∧ b < w4.heap.size) W4 (.agg #[.int .i64 oA, .int .i64 nA, .slice aA lA cA]) (plainT (.mk o1 n1 ks1) true)) := hF4.kept q4 (fun b hb => hb.2)
        have h34 := k4.size
        have h44 : w4.heap.size < W4.heap.size := b94.1
        clear c70 c71 c72 hF4 b73 b83 r3 x3 HR7
        obtain ⟨_, ⟨c70, c71, c72⟩, _⟩ := id b74
        obtain ⟨_, ⟨c80, c81, c82⟩, _⟩ := id b84
        obtain ⟨_, ⟨c90, c91, c92⟩, c93, c94, c95⟩ := id b94
        have b95 := b94
        have r5 := r4
        have HR8 : Hid (RV W4.heap.size W4 (.agg #[.int .i64 o2, .int .i64 n2, .slice ka2 ks2.length kc2]) (.mk o2 n2 ks2)) := HV2.out.kept kw4
        have RA5 : Hid (RVS (fun b => W3.heap.size ≤ b ∧ b < W4.heap.size) W4 (.agg #[.int .i64 oA, .int .i64 nA, .slice aA lA cA]) (plainT (.mk o1 n1 ks1) true)) := RA.out.keep (fun b hb => ⟨hb.1, by omega⟩) (fun _ _ => rfl)
        go_upto_region 31 with fail
        go_upto_region 32 with (go_at_call 57; refine (IH.out (.mk o2 n2 ks2) hs2 ht2 _ _ true HR8.out).mono ?_; rintro e w6 ⟨v', rfl, k6, hF6⟩; obtain ⟨oB, nB, aB, lB, cB, rfl⟩ := hF6.agg)
        obtain ⟨W6, hW6⟩ : ∃ W6, W6 = w6.alloc (.cells #[.int .i64 oB, .int .i64 nB, .slice aB lB cB] 30) := ⟨_, rfl⟩
        rw [← hW6]
        have q6 : Kept (fun _ => False) w6 W6 := by rw [hW6]; exact (Kept.refl _ _).alloc _
        have b106 : Wb3 W6 w6.heap.size (.int .i64 oB) (.int .i64 nB) (.slice aB lB cB) := by rw [hW6]; exact Wb3.new w6 _ _ _ 30
        clear hW6
        have k56 := k6.trans q6 (fun _ _ f => f)
        have r6 := r5.kept k56
        have b96 := b95.kept k56
        have h56 := k56.size
        have h66 := k6.size
        have h67 : w6.heap.size < W6.heap.size := b106.1
        have RA6 : Hid (RVS (fun b => W3.heap.size ≤ b ∧ b < W6.heap.size) W6 (.agg #[.int .i64 oA, .int .i64 nA, .slice aA lA cA]) (plainT (.mk o1 n1 ks1) true)) := (RA5.out.kept k56 (fun b hb => hb.2)).keep (fun b hb => ⟨hb.1, by omega⟩) (fun _ _ => rfl)
        have RB6 : Hid (RVS (fun b => W3.heap.size ≤ b ∧ b < W6.heap.size) W6 (.agg #[.int .i64 oB, .int .i64 nB, .slice aB lB cB]) (plainT (.mk o2 n2 ks2) true)) := (hF6.kept q6 (fun b hb => hb.2)).keep (fun b hb => ⟨by have := hb.1; omega, by have := hb.2; omega⟩) (fun _ _ => rfl)
        have KW6 : Hid (Kept (fun _ => False) w W6) := kw4.trans k56 (fun _ _ f => f)
        have hr6 := r6.1
        clear c70 c71 c72 c80 c81 c82 c90 c91 c92 c93 c94 c95 hF6
        obtain ⟨_, ⟨c90, c91, c92⟩, _⟩ := id b96
        obtain ⟨_, ⟨d00, d01, d02⟩, _⟩ := id b106
        go_wp2_with (first
          | (go_at_call 93; refine (other93 _ _).mono ?_; rintro e w7 ⟨hw7, rfl⟩; rw [hw7]; clear hw7; rw [show otherO 5 = 4 from rfl])
          | (go_at_call 78; refine (two78 (fun b => W3.heap.size ≤ b ∧ b < W6.heap.size) _ 4 _ _ _ _ (fun b hb => hb.2) RA6.out RB6.out).mono ?_; rintro e w8 ⟨v', rfl, k8, hF8⟩; obtain ⟨oC, nC, aC, lC, cC, rfl⟩ := hF8.agg; obtain ⟨_, ⟨r80, r81, r82⟩, r83, r84, r85⟩ := r6.kept k8; have HF8 : Hid (RVS (fun b => W3.heap.size ≤ b ∧ b < w8.heap.size) w8 (.agg #[.int .i64 oC, .int .i64 nC, .slice aC lC cC]) (binT 4 (plainT (.mk o1 n1 ks1) true) (plainT (.mk o2 n2 ks2) true))) := hF8.keep (fun b hb => hb.elim (fun g => ⟨g.1, Nat.lt_of_lt_of_le g.2 k8.size⟩) (fun g => ⟨by have := g.1; omega, g.2⟩)) (fun _ _ => rfl); clear hF8))
        have hf := fin57 (x := .int .i64 oC) (y := .int .i64 nC) (z := .slice aC lC cC) (r := w.heap.size + 1) (KW6.out.trans k8 (fun _ _ f => f)) (by omega) hr3 HF8.out
        refine bodyPost_ret (v := .agg #[.int .i64 oC, .int .i64 nC, .slice aC lC cC]) (by simp [results, Tryd.results57, go_sem, r80, r81, r82]) rfl ⟨_, rfl, hf.1, ?_⟩
        rw [HP.out]
        exact hf.2
    · obtain ⟨t1, t2, rfl⟩ : ∃ t1 t2, kids = [t1, t2] := len_two (by have h := HKL.out; rw [show kidC 6 = 2 from rfl] at h; omega)
      have hka := HKA.out (by simp)
      subst hka
      have ht1 : t1.well := HKW.out.1
      have ht2 : t2.well := HKW.out.2.1
      have hs1 : t1.size ≤ N := by simp only [Tr.sizes] at hsz; omega
      have hs2 : t2.size ≤ N := by simp only [Tr.sizes] at hsz; omega
      obtain ⟨W0, hW0⟩ : ∃ W0, W0 = ((w.alloc (.cells #[.int .i64 6, .int .i64 nn, .slice (some ⟨kb, ko, none⟩) 2 kc] 30)).alloc (.cells #[.int .i64 0, .int .i64 0, .slice none 0 0] 30)) := ⟨_, rfl⟩
      have k0 : Kept (fun _ => False) w W0 := by rw [hW0]; exact ((Kept.refl _ _).alloc _).alloc _
      have x0 : Wb3 W0 w.heap.size (.int .i64 6) (.int .i64 nn) (.slice (some ⟨kb, ko, none⟩) 2 kc) := by rw [hW0]; exact (Wb3.new w _ _ _ 30).kept ((Kept.refl _ _).alloc _)
      have r0 : Wb3 W0 (w.heap.size + 1) (.int .i64 0) (.int .i64 0) (.slice none 0 0) := by
        rw [hW0]
        have h := Wb3.new (w.alloc (.cells #[.int .i64 6, .int .i64 nn, .slice (some ⟨kb, ko, none⟩) 2 kc] 30)) (.int .i64 0) (.int .i64 0) (.slice none 0 0) 30
        simpa using h
      have R0 : Hid (Wb3 W0 (w.heap.size + 1) (.int .i64 0) (.int .i64 0) (.slice none 0 0)) := r0
      have X0 : Hid (Wb3 W0 w.heap.size (.int .i64 6) (.int .i64 nn) (.slice (some ⟨kb, ko, none⟩) 2 kc)) := x0
      have hr0 : w.heap.size + 1 < W0.heap.size := r0.1
      obtain ⟨_, ⟨x00, x01, x02⟩, _⟩ := x0
      clear r0
      obtain ⟨o1, n1, ks1⟩ := t1
      obtain ⟨o2, n2, ks2⟩ := t2
      obtain ⟨ka1, kc1, s0, s1, s2, hv1⟩ := HKS.out.1.val
      obtain ⟨ka2, kc2, s3, s4, s5, hv2⟩ := HKS.out.2.1.val
      have HV1 : Hid (RV w.heap.size w (.agg #[.int .i64 o1, .int .i64 n1, .slice ka1 ks1.length kc1]) (.mk o1 n1 ks1)) := hv1
      have HV2 : Hid (RV w.heap.size w (.agg #[.int .i64 o2, .int .i64 n2, .slice ka2 ks2.length kc2]) (.mk o2 n2 ks2)) := hv2
      have SC : Hid (∀ W, Kept (fun _ => False) w W → (W.cell? ⟨kb, ko, none⟩ = some (.int .i64 o1) ∧ W.cell? ⟨kb, ko + 1, none⟩ = some (.int .i64 n1) ∧ W.cell? ⟨kb, ko + 2, none⟩ = some (.slice ka1 ks1.length kc1)) ∧ W.cell? ⟨kb, ko + 3, none⟩ = some (.int .i64 o2) ∧ W.cell? ⟨kb, ko + 3 + 1, none⟩ = some (.int .i64 n2) ∧ W.cell? ⟨kb, ko + 3 + 2, none⟩ = some (.slice ka2 ks2.length kc2)) := fun W hk => ⟨⟨(hk.cell (lt_of_cell s0) (fun f => f)).trans s0, (hk.cell (lt_of_cell s1) (fun f => f)).trans s1, (hk.cell (lt_of_cell s2) (fun f => f)).trans s2⟩, (hk.cell (lt_of_cell s3) (fun f => f)).trans s3, (hk.cell (lt_of_cell s4) (fun f => f)).trans s4, (hk.cell (lt_of_cell s5) (fun f => f)).trans s5⟩
      clear hv1 hv2 s0 s1 s2 s3 s4 s5
      cases nt
      · have HP : Hid (plainT (.mk 6 nn [.mk o1 n1 ks1, .mk o2 n2 ks2]) false = binT 5 (plainT (.mk o1 n1 ks1) true) (plainT (.mk o2 n2 ks2) false)) := by simp [Hid, plainT]
        go_enter Tryd.func57, Tryd.ntmps57
        go_upto_region 1 with fail
        rw [← hW0]
        clear hW0
        go_upto_region 18 with fail
        obtain ⟨W1, hW1⟩ : ∃ W1, W1 = W0.alloc (.cells #[.int .i64 0, .int .i64 0, .slice none 0 0] 30) := ⟨_, rfl⟩
        rw [← hW1]
        have q1 : Kept (fun _ => False) W0 W1 := by rw [hW1]; exact (Kept.refl _ _).alloc _
        have b7 : Wb3 W1 W0.heap.size (.int .i64 0) (.int .i64 0) (.slice none 0 0) := by rw [hW1]; exact Wb3.new W0 _ _ _ 30
        clear hW1
        have kw1 := k0.trans q1 (fun _ _ f => f)
        have x1 := X0.out.kept q1
        have r1 := R0.out.kept q1
        obtain ⟨_, ⟨x10, x11, x12⟩, _⟩ := id x1
        obtain ⟨⟨s0, s1, s2⟩, s3, s4, s5⟩ := SC.out W1 kw1
        clear x00 x01 x02 X0 R0
        go_upto_region 19 with fail
        obtain ⟨W2, hW2⟩ : ∃ W2, W2 = W1.alloc (.cells #[.int .i64 o2, .int .i64 n2, .slice ka2 ks2.length kc2] 30) := ⟨_, rfl⟩
        rw [← hW2]
        have q2 : Kept (fun _ => False) W1 W2 := by rw [hW2]; exact (Kept.refl _ _).alloc _
        have b8 : Wb3 W2 W1.heap.size (.int .i64 o2) (.int .i64 n2) (.slice ka2 ks2.length kc2) := by rw [hW2]; exact Wb3.new W1 _ _ _ 30
        clear hW2
        have kw2 := kw1.trans q2 (fun _ _ f => f)
        have x2 := x1.kept q2
        have r2 := r1.kept q2
        have b72 := b7.kept q2
        obtain ⟨_, ⟨x20, x21, x22⟩, _⟩ := id x2
        obtain ⟨_, ⟨c70, c71, c72⟩, c73, c74, c75⟩ := id b72
        have e7 : W0.heap.size < W1.heap.size := b7.1
        clear s0 s1 s2 s3 s4 s5
        obtain ⟨⟨s0, s1, s2⟩, _, _, _⟩ := SC.out W2 kw2
        clear x10 x11 x12 x1 r1 b7
        go_upto_region 21 with fail
        obtain ⟨W3, hW3⟩ : ∃ W3, W3 = (((W2.setCell ⟨W0.heap.size, 0, none⟩ (.int .i64 o1)).setCell ⟨W0.heap.size, 1, none⟩ (.int .i64 n1)).setCell ⟨W0.heap.size, 2, none⟩ (.slice ka1 ks1.length kc1)) := ⟨_, rfl⟩
        rw [← hW3]
        have hk0 := k0.size
        have hq1 := q1.size
        have hq2 := q2.size
        have x3 : Wb3 W3 w.heap.size (.int .i64 6) (.int .i64 nn) (.slice (some ⟨kb, ko, none⟩) 2 kc) := by rw [hW3]; exact x2.other3 (by omega) _ _ _
        have r3 : Wb3 W3 (w.heap.size + 1) (.int .i64 0) (.int .i64 0) (.slice none 0 0) := by rw [hW3]; exact r2.other3 (by omega) _ _ _
        have b73 : Wb3 W3 W0.heap.size (.int .i64 o1) (.int .i64 n1) (.slice ka1 ks1.length kc1) := by rw [hW3]; exact b72.store _ _ _
        have b83 : Wb3 W3 W1.heap.size (.int .i64 o2) (.int .i64 n2) (.slice ka2 ks2.length kc2) := by rw [hW3]; exact b8.other3 (by omega) _ _ _
        have kw3 : Kept (fun _ => False) w W3 := by rw [hW3]; exact kept3 kw2 hk0 _ _ _
        have e3 : W3.heap.size = W2.heap.size := by rw [hW3]; simp [World.setCell]
        have HR7 : Hid (RV W3.heap.size W3 (.agg #[.int .i64 o1, .int .i64 n1, .slice ka1 ks1.length kc1]) (.mk o1 n1 ks1)) := HV1.out.kept kw3
        have KW3 : Hid (Kept (fun _ => False) w W3) := kw3
        have hr3 : w.heap.size + 1 < W3.heap.size := r3.1
        have e8 : W1.heap.size < W3.heap.size := b83.1
        clear hW3 x20 x21 x22 c70 c71 c72 c73 c74 c75 s0 s1 s2 x2 r2 b72 b8 kw2 kw1 q1 q2 SC kw3
        obtain ⟨_, ⟨c70, c71, c72⟩, _⟩ := id b73
        go_upto_region 22 with (go_at_call 57; refine (IH.out (.mk o1 n1 ks1) hs1 ht1 _ _ false HR7.out).mono ?_; rintro e w4 ⟨v', rfl, k4, hF4⟩; obtain ⟨oA, nA, aA, lA, cA, rfl⟩ := hF4.agg)
        obtain ⟨W4, hW4⟩ : ∃ W4, W4 = w4.alloc (.cells #[.int .i64 oA, .int .i64 nA, .slice aA lA cA] 30) := ⟨_, rfl⟩
        rw [← hW4]
        have q4 : Kept (fun _ => False) w4 W4 := by rw [hW4]; exact (Kept.refl _ _).alloc _
        have b94 : Wb3 W4 w4.heap.size (.int .i64 oA) (.int .i64 nA) (.slice aA lA cA) := by rw [hW4]; exact Wb3.new w4 _ _ _ 30
        clear hW4
        have k34 := k4.trans q4 (fun _ _ f => f)
        have kw4 := KW3.out.trans k34 (fun _ _ f => f)
        have r4 := r3.kept k34
        have b74 := b73.kept k34
        have b84 := b83.kept k34
        have RA : Hid (RVS (fun b => W3.heap.size ≤ b ∧ b < w4.heap.size) W4 (.agg #[.int .i64 oA, .int .i64 nA, .slice aA lA cA]) (plainT (.mk o1 n1 ks1) false)) := hF4.kept q4 (fun b hb => hb.2)
        have h34 := k4.size
        have h44 : w4.heap.size < W4.heap.size := b94.1
        clear c70 c71 c72 hF4 b73 b83 r3 x3 HR7
        obtain ⟨_, ⟨c70, c71, c72⟩, _⟩ := id b74
        obtain ⟨_, ⟨c80, c81, c82⟩, _⟩ := id b84
        obtain ⟨_, ⟨c90, c91, c92⟩, c93, c94, c95⟩ := id b94
        have HRc : Hid (RV W4.heap.size W4 (.agg #[.int .i64 o1, .int .i64 n1, .slice ka1 ks1.length kc1]) (.mk o1 n1 ks1)) := HV1.out.kept kw4
        go_upto_region 31 with (go_at_call 57; refine (IH.out (.mk o1 n1 ks1) hs1 ht1 _ _ true HRc.out).mono ?_; rintro e w5 ⟨v', rfl, k5, hF5⟩; obtain ⟨oE, nE, aE, lE, cE, rfl⟩ := hF5.agg; obtain ⟨_, ⟨e90, e91, e92⟩, e93, e94, e95⟩ := b94.kept k5; have HF5 : Hid (RVS (fun b => W4.heap.size ≤ b ∧ b < w5.heap.size) w5 (.agg #[.int .i64 oE, .int .i64 nE, .slice aE lE cE]) (plainT (.mk o1 n1 ks1) true)) := hF5; clear hF5)
        obtain ⟨W5, hW5⟩ : ∃ W5, W5 = (((w5.setCell ⟨w4.heap.size, 0, none⟩ (.int .i64 oE)).setCell ⟨w4.heap.size, 1, none⟩ (.int .i64 nE)).setCell ⟨w4.heap.size, 2, none⟩ (.slice aE lE cE)) := ⟨_, rfl⟩
        rw [← hW5]
        have hk4 := KW3.out.size
        have h45 := k5.size
        have hrw : w.heap.size + 1 < w4.heap.size := by omega
        have r5 : Wb3 W5 (w.heap.size + 1) (.int .i64 0) (.int .i64 0) (.slice none 0 0) := by rw [hW5]; exact (r4.kept k5).other3 (by omega) _ _ _
        have hb8 : W1.heap.size < w4.heap.size := by omega
        have b85 : Wb3 W5 W1.heap.size (.int .i64 o2) (.int .i64 n2) (.slice ka2 ks2.length kc2) := by rw [hW5]; exact (b84.kept k5).other3 (by omega) _ _ _
        have b95 : Wb3 W5 w4.heap.size (.int .i64 oE) (.int .i64 nE) (.slice aE lE cE) := by rw [hW5]; exact (b94.kept k5).store _ _ _
        have kw5 : Kept (fun _ => False) w W5 := by rw [hW5]; exact kept3 (kw4.trans k5 (fun _ _ f => f)) (by omega) _ _ _
        have e5 : W5.heap.size = w5.heap.size := by rw [hW5]; simp [World.setCell]
        have RA5 : Hid (RVS (fun b => W3.heap.size ≤ b ∧ b < W5.heap.size) W5 (.agg #[.int .i64 oE, .int .i64 nE, .slice aE lE cE]) (plainT (.mk o1 n1 ks1) true)) := by
          rw [hW5]
          have hn : ¬ (W4.heap.size ≤ w4.heap.size ∧ w4.heap.size < w5.heap.size) := by omega
          exact (((HF5.out.set (p := ⟨w4.heap.size, 0, none⟩) hn _).set (p := ⟨w4.heap.size, 1, none⟩) hn _).set (p := ⟨w4.heap.size, 2, none⟩) hn _).keep (fun b hb => ⟨by have := hb.1; omega, by rw [← hW5, e5]; exact hb.2⟩) (fun _ _ => rfl)
        have HR8 : Hid (RV W5.heap.size W5 (.agg #[.int .i64 o2, .int .i64 n2, .slice ka2 ks2.length kc2]) (.mk o2 n2 ks2)) := HV2.out.kept kw5
        clear hW5 c70 c71 c72 c80 c81 c82 c90 c91 c92 c93 c94 c95 e90 e91 e92 e93 e94 e95 HF5
        obtain ⟨_, ⟨c80, c81, c82⟩, _⟩ := id b85
        go_upto_region 32 with (go_at_call 57; refine (IH.out (.mk o2 n2 ks2) hs2 ht2 _ _ false HR8.out).mono ?_; rintro e w6 ⟨v', rfl, k6, hF6⟩; obtain ⟨oB, nB, aB, lB, cB, rfl⟩ := hF6.agg)
        obtain ⟨W6, hW6⟩ : ∃ W6, W6 = w6.alloc (.cells #[.int .i64 oB, .int .i64 nB, .slice aB lB cB] 30) := ⟨_, rfl⟩
        rw [← hW6]
        have q6 : Kept (fun _ => False) w6 W6 := by rw [hW6]; exact (Kept.refl _ _).alloc _
        have b106 : Wb3 W6 w6.heap.size (.int .i64 oB) (.int .i64 nB) (.slice aB lB cB) := by rw [hW6]; exact Wb3.new w6 _ _ _ 30
        clear hW6
        have k56 := k6.trans q6 (fun _ _ f => f)
        have r6 := r5.kept k56
        have b96 := b95.kept k56
        have h56 := k56.size
        have h66 := k6.size
        have h67 : w6.heap.size < W6.heap.size := b106.1
        have RA6 : Hid (RVS (fun b => W3.heap.size ≤ b ∧ b < W6.heap.size) W6 (.agg #[.int .i64 oE, .int .i64 nE, .slice aE lE cE]) (plainT (.mk o1 n1 ks1) true)) := (RA5.out.kept k56 (fun b hb => hb.2)).keep (fun b hb => ⟨hb.1, by omega⟩) (fun _ _ => rfl)
        have RB6 : Hid (RVS (fun b => W3.heap.size ≤ b ∧ b < W6.heap.size) W6 (.agg #[.int .i64 oB, .int .i64 nB, .slice aB lB cB]) (plainT (.mk o2 n2 ks2) false)) := (hF6.kept q6 (fun b hb => hb.2)).keep (fun b hb => ⟨by have := hb.1; omega, by have := hb.2; omega⟩) (fun _ _ => rfl)
        have KW6 : Hid (Kept (fun _ => False) w W6) := kw5.trans k56 (fun _ _ f => f)
        have hr6 := r6.1
        clear c80 c81 c82 hF6
        obtain ⟨_, ⟨c90, c91, c92⟩, _⟩ := id b96
        obtain ⟨_, ⟨d00, d01, d02⟩, _⟩ := id b106
        go_wp2_with (first
          | (go_at_call 93; refine (other93 _ _).mono ?_; rintro e w7 ⟨hw7, rfl⟩; rw [hw7]; clear hw7; rw [show otherO 5 = 5 from rfl])
          | (go_at_call 78; refine (two78 (fun b => W3.heap.size ≤ b ∧ b < W6.heap.size) _ 5 _ _ _ _ (fun b hb => hb.2) RA6.out RB6.out).mono ?_; rintro e w8 ⟨v', rfl, k8, hF8⟩; obtain ⟨oC, nC, aC, lC, cC, rfl⟩ := hF8.agg; obtain ⟨_, ⟨r80, r81, r82⟩, r83, r84, r85⟩ := r6.kept k8; have HF8 : Hid (RVS (fun b => W3.heap.size ≤ b ∧ b < w8.heap.size) w8 (.agg #[.int .i64 oC, .int .i64 nC, .slice aC lC cC]) (binT 5 (plainT (.mk o1 n1 ks1) true) (plainT (.mk o2 n2 ks2) false))) := hF8.keep (fun b hb => hb.elim (fun g => ⟨g.1, Nat.lt_of_lt_of_le g.2 k8.size⟩) (fun g => ⟨by have := g.1; omega, g.2⟩)) (fun _ _ => rfl); clear hF8))
        have hf := fin57 (x := .int .i64 oC) (y := .int .i64 nC) (z := .slice aC lC cC) (r := w.heap.size + 1) (KW6.out.trans k8 (fun _ _ f => f)) (by omega) hr3 HF8.out
        refine bodyPost_ret (v := .agg #[.int .i64 oC, .int .i64 nC, .slice aC lC cC]) (by simp [results, Tryd.results57, go_sem, r80, r81, r82]) rfl ⟨_, rfl, hf.1, ?_⟩
        rw [HP.out]
        exact hf.2
      · have HP : Hid (plainT (.mk 6 nn [.mk o1 n1 ks1, .mk o2 n2 ks2]) true = binT 4 (plainT (.mk o1 n1 ks1) false) (plainT (.mk o2 n2 ks2) true)) := by simp [Hid, plainT]
        go_enter Tryd.func57, Tryd.ntmps57
        go_upto_region 1 with fail
        rw [← hW0]
        clear hW0
        go_upto_region 18 with fail
        obtain ⟨W1, hW1⟩ : ∃ W1, W1 = W0.alloc (.cells #[.int .i64 0, .int .i64 0, .slice none 0 0] 30) := ⟨_, rfl⟩
        rw [← hW1]
        have q1 : Kept (fun _ => False) W0 W1 := by rw [hW1]; exact (Kept.refl _ _).alloc _
        have b7 : Wb3 W1 W0.heap.size (.int .i64 0) (.int .i64 0) (.slice none 0 0) := by rw [hW1]; exact Wb3.new W0 _ _ _ 30
        clear hW1
        have kw1 := k0.trans q1 (fun _ _ f => f)
        have x1 := X0.out.kept q1
        have r1 := R0.out.kept q1
        obtain ⟨_, ⟨x10, x11, x12⟩, _⟩ := id x1
        obtain ⟨⟨s0, s1, s2⟩, s3, s4, s5⟩ := SC.out W1 kw1
        clear x00 x01 x02 X0 R0
        go_upto_region 19 with fail
        obtain ⟨W2, hW2⟩ : ∃ W2, W2 = W1.alloc (.cells #[.int .i64 o2, .int .i64 n2, .slice ka2 ks2.length kc2] 30) := ⟨_, rfl⟩
        rw [← hW2]
        have q2 : Kept (fun _ => False) W1 W2 := by rw [hW2]; exact (Kept.refl _ _).alloc _
        have b8 : Wb3 W2 W1.heap.size (.int .i64 o2) (.int .i64 n2) (.slice ka2 ks2.length kc2) := by rw [hW2]; exact Wb3.new W1 _ _ _ 30
        clear hW2
        have kw2 := kw1.trans q2 (fun _ _ f => f)
        have x2 := x1.kept q2
        have r2 := r1.kept q2
        have b72 := b7.kept q2
        obtain ⟨_, ⟨x20, x21, x22⟩, _⟩ := id x2
        obtain ⟨_, ⟨c70, c71, c72⟩, c73, c74, c75⟩ := id b72
        have e7 : W0.heap.size < W1.heap.size := b7.1
        clear s0 s1 s2 s3 s4 s5
        obtain ⟨⟨s0, s1, s2⟩, _, _, _⟩ := SC.out W2 kw2
        clear x10 x11 x12 x1 r1 b7
        go_upto_region 21 with fail
        obtain ⟨W3, hW3⟩ : ∃ W3, W3 = (((W2.setCell ⟨W0.heap.size, 0, none⟩ (.int .i64 o1)).setCell ⟨W0.heap.size, 1, none⟩ (.int .i64 n1)).setCell ⟨W0.heap.size, 2, none⟩ (.slice ka1 ks1.length kc1)) := ⟨_, rfl⟩
        rw [← hW3]
        have hk0 := k0.size
        have hq1 := q1.size
        have hq2 := q2.size
        have x3 : Wb3 W3 w.heap.size (.int .i64 6) (.int .i64 nn) (.slice (some ⟨kb, ko, none⟩) 2 kc) := by rw [hW3]; exact x2.other3 (by omega) _ _ _
        have r3 : Wb3 W3 (w.heap.size + 1) (.int .i64 0) (.int .i64 0) (.slice none 0 0) := by rw [hW3]; exact r2.other3 (by omega) _ _ _
        have b73 : Wb3 W3 W0.heap.size (.int .i64 o1) (.int .i64 n1) (.slice ka1 ks1.length kc1) := by rw [hW3]; exact b72.store _ _ _
        have b83 : Wb3 W3 W1.heap.size (.int .i64 o2) (.int .i64 n2) (.slice ka2 ks2.length kc2) := by rw [hW3]; exact b8.other3 (by omega) _ _ _
        have kw3 : Kept (fun _ => False) w W3 := by rw [hW3]; exact kept3 kw2 hk0 _ _ _
        have e3 : W3.heap.size = W2.heap.size := by rw [hW3]; simp [World.setCell]
        have HR7 : Hid (RV W3.heap.size W3 (.agg #[.int .i64 o1, .int .i64 n1, .slice ka1 ks1.length kc1]) (.mk o1 n1 ks1)) := HV1.out.kept kw3
        have KW3 : Hid (Kept (fun _ => False) w W3) := kw3
        have hr3 : w.heap.size + 1 < W3.heap.size := r3.1
        have e8 : W1.heap.size < W3.heap.size := b83.1
        clear hW3 x20 x21 x22 c70 c71 c72 c73 c74 c75 s0 s1 s2 x2 r2 b72 b8 kw2 kw1 q1 q2 SC kw3
        obtain ⟨_, ⟨c70, c71, c72⟩, _⟩ := id b73
        go_upto_region 22 with (go_at_call 57; refine (IH.out (.mk o1 n1 ks1) hs1 ht1 _ _ true HR7.out).mono ?_; rintro e w4 ⟨v', rfl, k4, hF4⟩; obtain ⟨oA, nA, aA, lA, cA, rfl⟩ := hF4.agg)
        obtain ⟨W4, hW4⟩ : ∃ W4, W4 = w4.alloc (.cells #[.int .i64 oA, .int .i64 nA, .slice aA lA cA] 30) := ⟨_, rfl⟩
        rw [← hW4]
        have q4 : Kept (fun _ => False) w4 W4 := by rw [hW4]; exact (Kept.refl _ _).alloc _
        have b94 : Wb3 W4 w4.heap.size (.int .i64 oA) (.int .i64 nA) (.slice aA lA cA) := by rw [hW4]; exact Wb3.new w4 _ _ _ 30
        clear hW4
        have k34 := k4.trans q4 (fun _ _ f => f)
        have kw4 := KW3.out.trans k34 (fun _ _ f => f)
        have r4 := r3.kept k34
        have b74 := b73.kept k34
        have b84 := b83.kept k34
        have RA : Hid (RVS (fun b => W3.heap.size ≤ b ∧ b < w4.heap.size) W4 (.agg #[.int .i64 oA, .int .i64 nA, .slice aA lA cA]) (plainT (.mk o1 n1 ks1) true)) := hF4.kept q4 (fun b hb => hb.2)
        have h34 := k4.size
        have h44 : w4.heap.size < W4.heap.size := b94.1
        clear c70 c71 c72 hF4 b73 b83 r3 x3 HR7
        obtain ⟨_, ⟨c70, c71, c72⟩, _⟩ := id b74
        obtain ⟨_, ⟨c80, c81, c82⟩, _⟩ := id b84
        obtain ⟨_, ⟨c90, c91, c92⟩, c93, c94, c95⟩ := id b94
        have HRc : Hid (RV W4.heap.size W4 (.agg #[.int .i64 o1, .int .i64 n1, .slice ka1 ks1.length kc1]) (.mk o1 n1 ks1)) := HV1.out.kept kw4
        go_upto_region 31 with (go_at_call 57; refine (IH.out (.mk o1 n1 ks1) hs1 ht1 _ _ false HRc.out).mono ?_; rintro e w5 ⟨v', rfl, k5, hF5⟩; obtain ⟨oE, nE, aE, lE, cE, rfl⟩ := hF5.agg; obtain ⟨_, ⟨e90, e91, e92⟩, e93, e94, e95⟩ := b94.kept k5; have HF5 : Hid (RVS (fun b => W4.heap.size ≤ b ∧ b < w5.heap.size) w5 (.agg #[.int .i64 oE, .int .i64 nE, .slice aE lE cE]) (plainT (.mk o1 n1 ks1) false)) := hF5; clear hF5)
        obtain ⟨W5, hW5⟩ : ∃ W5, W5 = (((w5.setCell ⟨w4.heap.size, 0, none⟩ (.int .i64 oE)).setCell ⟨w4.heap.size, 1, none⟩ (.int .i64 nE)).setCell ⟨w4.heap.size, 2, none⟩ (.slice aE lE cE)) := ⟨_, rfl⟩
        rw [← hW5]
        have hk4 := KW3.out.size
        have h45 := k5.size
        have hrw : w.heap.size + 1 < w4.heap.size := by omega
        have r5 : Wb3 W5 (w.heap.size + 1) (.int .i64 0) (.int .i64 0) (.slice none 0 0) := by rw [hW5]; exact (r4.kept k5).other3 (by omega) _ _ _
        have hb8 : W1.heap.size < w4.heap.size := by omega
        have b85 : Wb3 W5 W1.heap.size (.int .i64 o2) (.int .i64 n2) (.slice ka2 ks2.length kc2) := by rw [hW5]; exact (b84.kept k5).other3 (by omega) _ _ _
        have b95 : Wb3 W5 w4.heap.size (.int .i64 oE) (.int .i64 nE) (.slice aE lE cE) := by rw [hW5]; exact (b94.kept k5).store _ _ _
        have kw5 : Kept (fun _ => False) w W5 := by rw [hW5]; exact kept3 (kw4.trans k5 (fun _ _ f => f)) (by omega) _ _ _
        have e5 : W5.heap.size = w5.heap.size := by rw [hW5]; simp [World.setCell]
        have RA5 : Hid (RVS (fun b => W3.heap.size ≤ b ∧ b < W5.heap.size) W5 (.agg #[.int .i64 oE, .int .i64 nE, .slice aE lE cE]) (plainT (.mk o1 n1 ks1) false)) := by
          rw [hW5]
          have hn : ¬ (W4.heap.size ≤ w4.heap.size ∧ w4.heap.size < w5.heap.size) := by omega
          exact (((HF5.out.set (p := ⟨w4.heap.size, 0, none⟩) hn _).set (p := ⟨w4.heap.size, 1, none⟩) hn _).set (p := ⟨w4.heap.size, 2, none⟩) hn _).keep (fun b hb => ⟨by have := hb.1; omega, by rw [← hW5, e5]; exact hb.2⟩) (fun _ _ => rfl)
        have HR8 : Hid (RV W5.heap.size W5 (.agg #[.int .i64 o2, .int .i64 n2, .slice ka2 ks2.length kc2]) (.mk o2 n2 ks2)) := HV2.out.kept kw5
        clear hW5 c70 c71 c72 c80 c81 c82 c90 c91 c92 c93 c94 c95 e90 e91 e92 e93 e94 e95 HF5
        obtain ⟨_, ⟨c80, c81, c82⟩, _⟩ := id b85
        go_upto_region 32 with (go_at_call 57; refine (IH.out (.mk o2 n2 ks2) hs2 ht2 _ _ true HR8.out).mono ?_; rintro e w6 ⟨v', rfl, k6, hF6⟩; obtain ⟨oB, nB, aB, lB, cB, rfl⟩ := hF6.agg)
        obtain ⟨W6, hW6⟩ : ∃ W6, W6 = w6.alloc (.cells #[.int .i64 oB, .int .i64 nB, .slice aB lB cB] 30) := ⟨_, rfl⟩
        rw [← hW6]
        have q6 : Kept (fun _ => False) w6 W6 := by rw [hW6]; exact (Kept.refl _ _).alloc _
        have b106 : Wb3 W6 w6.heap.size (.int .i64 oB) (.int .i64 nB) (.slice aB lB cB) := by rw [hW6]; exact Wb3.new w6 _ _ _ 30
        clear hW6
        have k56 := k6.trans q6 (fun _ _ f => f)
        have r6 := r5.kept k56
        have b96 := b95.kept k56
        have h56 := k56.size
        have h66 := k6.size
        have h67 : w6.heap.size < W6.heap.size := b106.1
        have RA6 : Hid (RVS (fun b => W3.heap.size ≤ b ∧ b < W6.heap.size) W6 (.agg #[.int .i64 oE, .int .i64 nE, .slice aE lE cE]) (plainT (.mk o1 n1 ks1) false)) := (RA5.out.kept k56 (fun b hb => hb.2)).keep (fun b hb => ⟨hb.1, by omega⟩) (fun _ _ => rfl)
        have RB6 : Hid (RVS (fun b => W3.heap.size ≤ b ∧ b < W6.heap.size) W6 (.agg #[.int .i64 oB, .int .i64 nB, .slice aB lB cB]) (plainT (.mk o2 n2 ks2) true)) := (hF6.kept q6 (fun b hb => hb.2)).keep (fun b hb => ⟨by have := hb.1; omega, by have := hb.2; omega⟩) (fun _ _ => rfl)
        have KW6 : Hid (Kept (fun _ => False) w W6) := kw5.trans k56 (fun _ _ f => f)
        have hr6 := r6.1
        clear c80 c81 c82 hF6
        obtain ⟨_, ⟨c90, c91, c92⟩, _⟩ := id b96
        obtain ⟨_, ⟨d00, d01, d02⟩, _⟩ := id b106
        go_wp2_with (first
          | (go_at_call 93; refine (other93 _ _).mono ?_; rintro e w7 ⟨hw7, rfl⟩; rw [hw7]; clear hw7; rw [show otherO 5 = 4 from rfl])
          | (go_at_call 78; refine (two78 (fun b => W3.heap.size ≤ b ∧ b < W6.heap.size) _ 4 _ _ _ _ (fun b hb => hb.2) RA6.out RB6.out).mono ?_; rintro e w8 ⟨v', rfl, k8, hF8⟩; obtain ⟨oC, nC, aC, lC, cC, rfl⟩ := hF8.agg; obtain ⟨_, ⟨r80, r81, r82⟩, r83, r84, r85⟩ := r6.kept k8; have HF8 : Hid (RVS (fun b => W3.heap.size ≤ b ∧ b < w8.heap.size) w8 (.agg #[.int .i64 oC, .int .i64 nC, .slice aC lC cC]) (binT 4 (plainT (.mk o1 n1 ks1) false) (plainT (.mk o2 n2 ks2) true))) := hF8.keep (fun b hb => hb.elim (fun g => ⟨g.1, Nat.lt_of_lt_of_le g.2 k8.size⟩) (fun g => ⟨by have := g.1; omega, g.2⟩)) (fun _ _ => rfl); clear hF8))
        have hf := fin57 (x := .int .i64 oC) (y := .int .i64 nC) (z := .slice aC lC cC) (r := w.heap.size + 1) (KW6.out.trans k8 (fun _ _ f => f)) (by omega) hr3 HF8.out
        refine bodyPost_ret (v := .agg #[.int .i64 oC, .int .i64 nC, .slice aC lC cC]) (by simp [results, Tryd.results57, go_sem, r80, r81, r82]) rfl ⟨_, rfl, hf.1, ?_⟩
        rw [HP.out]
        exact hf.2
    · obtain ⟨t1, rfl⟩ : ∃ t1, kids = [t1] := List.length_eq_one_iff.1 (by have h := HKL.out; rw [show kidC 7 = 1 from rfl] at h; omega)
      have hka := HKA.out (by simp)
      subst hka
      have ht1 : t1.well := HKW.out.1
      have hs1 : t1.size ≤ N := by simp only [Tr.sizes] at hsz; omega
      obtain ⟨W0, hW0⟩ : ∃ W0, W0 = ((w.alloc (.cells #[.int .i64 7, .int .i64 nn, .slice (some ⟨kb, ko, none⟩) 1 kc] 30)).alloc (.cells #[.int .i64 0, .int .i64 0, .slice none 0 0] 30)) := ⟨_, rfl⟩
      have k0 : Kept (fun _ => False) w W0 := by rw [hW0]; exact ((Kept.refl _ _).alloc _).alloc _
      have x0 : Wb3 W0 w.heap.size (.int .i64 7) (.int .i64 nn) (.slice (some ⟨kb, ko, none⟩) 1 kc) := by rw [hW0]; exact (Wb3.new w _ _ _ 30).kept ((Kept.refl _ _).alloc _)
      have r0 : Wb3 W0 (w.heap.size + 1) (.int .i64 0) (.int .i64 0) (.slice none 0 0) := by
        rw [hW0]
        have h := Wb3.new (w.alloc (.cells #[.int .i64 7, .int .i64 nn, .slice (some ⟨kb, ko, none⟩) 1 kc] 30)) (.int .i64 0) (.int .i64 0) (.slice none 0 0) 30
        simpa using h
      have R0 : Hid (Wb3 W0 (w.heap.size + 1) (.int .i64 0) (.int .i64 0) (.slice none 0 0)) := r0
      have X0 : Hid (Wb3 W0 w.heap.size (.int .i64 7) (.int .i64 nn) (.slice (some ⟨kb, ko, none⟩) 1 kc)) := x0
      have hr0 : w.heap.size + 1 < W0.heap.size := r0.1
      obtain ⟨_, ⟨x00, x01, x02⟩, _⟩ := x0
      clear r0
      obtain ⟨o1, n1, ks1⟩ := t1
      obtain ⟨ka1, kc1, s0, s1, s2, hv1⟩ := (RsAt.below (k0.below (Nat.le_refl _) (fun _ f => f.elim)) HKS.out).1.val
      have HV1 : Hid (RV W0.heap.size W0 (.agg #[.int .i64 o1, .int .i64 n1, .slice ka1 ks1.length kc1]) (.mk o1 n1 ks1)) := hv1.mono k0.size
      clear hv1
      go_enter Tryd.func57, Tryd.ntmps57
      go_upto_region 1 with fail
      rw [← hW0]
      clear hW0
      have HP : Hid (plainT (.mk 7 nn [.mk o1 n1 ks1]) nt = .mk 7 0 [plainT (.mk o1 n1 ks1) nt]) := by simp [Hid, plainT]
      go_upto_region 15 with (go_at_call 57; refine (IH.out (.mk o1 n1 ks1) hs1 ht1 _ _ nt HV1.out).mono ?_; rintro e w1 ⟨v', rfl, k1, hF1⟩; obtain ⟨oA, nA, aA, lA, cA, rfl⟩ := hF1.agg)
      obtain ⟨W2, hW2⟩ : ∃ W2, W2 = w1.alloc (.cells #[.int .i64 oA, .int .i64 nA, .slice aA lA cA] 30) := ⟨_, rfl⟩
      rw [← hW2]
      have q2 : Kept (fun _ => False) w1 W2 := by rw [hW2]; exact (Kept.refl _ _).alloc _
      have b5 : Wb3 W2 w1.heap.size (.int .i64 oA) (.int .i64 nA) (.slice aA lA cA) := by rw [hW2]; exact Wb3.new w1 _ _ _ 30
      clear hW2
      have k02 := k1.trans q2 (fun _ _ f => f)
      have r2 := R0.out.kept k02
      have HF2 : Hid (RVS (fun b => W0.heap.size ≤ b ∧ b < w1.heap.size) W2 (.agg #[.int .i64 oA, .int .i64 nA, .slice aA lA cA]) (plainT (.mk o1 n1 ks1) nt)) := hF1.kept q2 (fun b hb => hb.2)
      obtain ⟨_, ⟨c50, c51, c52⟩, _⟩ := id b5
      have Q : ∀ o, Wb3 (W2.alloc o) (w.heap.size + 1) (.int .i64 0) (.int .i64 0) (.slice none 0 0) := fun o => r2.kept ((Kept.refl _ _).alloc _)
      have Q0 : ∀ o, (W2.alloc o).cell? ⟨w.heap.size + 1, 0, none⟩ = some (.int .i64 0) := fun o => (Q o).2.1.1
      have Q1 : ∀ o, (W2.alloc o).cell? ⟨w.heap.size + 1, 1, none⟩ = some (.int .i64 0) := fun o => (Q o).2.1.2.1
      have Q2 : ∀ o, (W2.alloc o).cell? ⟨w.heap.size + 1, 2, none⟩ = some (.slice none 0 0) := fun o => (Q o).2.1.2.2
      have Q3 : ∀ o, (W2.alloc o).frozen? ⟨w.heap.size + 1, 0, none⟩ = false := fun o => (Q o).2.2.1
      have Q4 : ∀ o, (W2.alloc o).frozen? ⟨w.heap.size + 1, 1, none⟩ = false := fun o => (Q o).2.2.2.1
      have Q5 : ∀ o, (W2.alloc o).frozen? ⟨w.heap.size + 1, 2, none⟩ = false := fun o => (Q o).2.2.2.2
      have KW2 : Hid (Kept (fun _ => False) w W2) := k0.trans k02 (fun _ _ f => f)
      have h02 := k02.size
      have hw1 : w1.heap.size < W2.heap.size := b5.1
      clear x00 x01 x02 hF1 r2 b5 Q
      go_wp2
      have kf := KW2.out.alloc (.cells #[.int .i64 oA, .int .i64 nA, .slice aA lA cA] 30)
      have hv : RVS (fun b => W0.heap.size ≤ b ∧ b < (W2.alloc (.cells #[.int .i64 oA, .int .i64 nA, .slice aA lA cA] 30)).heap.size) (W2.alloc (.cells #[.int .i64 oA, .int .i64 nA, .slice aA lA cA] 30)) (.agg #[.int .i64 7, .int .i64 0, .slice (some ⟨W2.heap.size, 0, none⟩) 1 1]) (.mk 7 0 [plainT (.mk o1 n1 ks1) nt]) := by
        have hA := (HF2.out.kept ((Kept.refl (fun _ => False) W2).alloc (.cells #[.int .i64 oA, .int .i64 nA, .slice aA lA cA] 30)) (fun b hb => by have := hb.2; omega)).keep (S' := fun b => W0.heap.size ≤ b ∧ b < (W2.alloc (.cells #[.int .i64 oA, .int .i64 nA, .slice aA lA cA] 30)).heap.size) (fun b hb => ⟨hb.1, by have := hb.2; simp; omega⟩) (fun _ _ => rfl)
        generalize plainT (.mk o1 n1 ks1) nt = tA at *
        obtain ⟨oT, nT, kT⟩ := tA
        obtain ⟨pa, pb, po, pc, e, g1, g2⟩ := hA
        cases e
        refine ⟨_, W2.heap.size, 0, 1, rfl, fun _ => rfl, ⟨⟨h02, by simp⟩, ?_, ?_, aA, pb, po, cA, ?_, g1, g2⟩, trivial⟩
        all_goals (rw [World.cell?_alloc_at (hn := rfl)]; rfl)
      have hf := fin57 (x := .int .i64 7) (y := .int .i64 0) (z := .slice (some ⟨W2.heap.size, 0, none⟩) 1 1) (r := w.heap.size + 1) kf (by omega) hr0 hv
      refine bodyPost_ret (v := .agg #[.int .i64 7, .int .i64 0, .slice (some ⟨W2.heap.size, 0, none⟩) 1 1]) (by simp [results, Tryd.results57, go_sem, Q0, Q1, Q2]) rfl ⟨_, rfl, hf.1, ?_⟩
      rw [HP.out]
      exact hf.2
    · obtain ⟨t1, t2, rfl⟩ : ∃ t1 t2, kids = [t1, t2] := len_two (by have h := HKL.out; rw [show kidC 8 = 2 from rfl] at h; omega)
      have hka := HKA.out (by simp)
      subst hka
      have ht1 : t1.well := HKW.out.1
      have ht2 : t2.well := HKW.out.2.1
      have hs1 : t1.size ≤ N := by simp only [Tr.sizes] at hsz; omega
      have hs2 : t2.size ≤ N := by simp only [Tr.sizes] at hsz; omega
      obtain ⟨W0, hW0⟩ : ∃ W0, W0 = ((w.alloc (.cells #[.int .i64 8, .int .i64 nn, .slice (some ⟨kb, ko, none⟩) 2 kc] 30)).alloc (.cells #[.int .i64 0, .int .i64 0, .slice none 0 0] 30)) := ⟨_, rfl⟩
      have k0 : Kept (fun _ => False) w W0 := by rw [hW0]; exact ((Kept.refl _ _).alloc _).alloc _
      have x0 : Wb3 W0 w.heap.size (.int .i64 8) (.int .i64 nn) (.slice (some ⟨kb, ko, none⟩) 2 kc) := by rw [hW0]; exact (Wb3.new w _ _ _ 30).kept ((Kept.refl _ _).alloc _)
      have r0 : Wb3 W0 (w.heap.size + 1) (.int .i64 0) (.int .i64 0) (.slice none 0 0) := by
        rw [hW0]
        have h := Wb3.new (w.alloc (.cells #[.int .i64 8, .int .i64 nn, .slice (some ⟨kb, ko, none⟩) 2 kc] 30)) (.int .i64 0) (.int .i64 0) (.slice none 0 0) 30
        simpa using h
      have R0 : Hid (Wb3 W0 (w.heap.size + 1) (.int .i64 0) (.int .i64 0) (.slice none 0 0)) := r0
      have X0 : Hid (Wb3 W0 w.heap.size (.int .i64 8) (.int .i64 nn) (.slice (some ⟨kb, ko, none⟩) 2 kc)) := x0
      have hr0 : w.heap.size + 1 < W0.heap.size := r0.1
      obtain ⟨_, ⟨x00, x01, x02⟩, _⟩ := x0
      clear r0
      obtain ⟨o1, n1, ks1⟩ := t1
      obtain ⟨o2, n2, ks2⟩ := t2
      obtain ⟨ka1, kc1, s0, s1, s2, hv1⟩ := HKS.out.1.val
      obtain ⟨ka2, kc2, s3, s4, s5, hv2⟩ := HKS.out.2.1.val
      have HV1 : Hid (RV w.heap.size w (.agg #[.int .i64 o1, .int .i64 n1, .slice ka1 ks1.length kc1]) (.mk o1 n1 ks1)) := hv1
      have HV2 : Hid (RV w.heap.size w (.agg #[.int .i64 o2, .int .i64 n2, .slice ka2 ks2.length kc2]) (.mk o2 n2 ks2)) := hv2
      have SC : Hid (∀ W, Kept (fun _ => False) w W → (W.cell? ⟨kb, ko, none⟩ = some (.int .i64 o1) ∧ W.cell? ⟨kb, ko + 1, none⟩ = some (.int .i64 n1) ∧ W.cell? ⟨kb, ko + 2, none⟩ = some (.slice ka1 ks1.length kc1)) ∧ W.cell? ⟨kb, ko + 3, none⟩ = some (.int .i64 o2) ∧ W.cell? ⟨kb, ko + 3 + 1, none⟩ = some (.int .i64 n2) ∧ W.cell? ⟨kb, ko + 3 + 2, none⟩ = some (.slice ka2 ks2.length kc2)) := fun W hk => ⟨⟨(hk.cell (lt_of_cell s0) (fun f => f)).trans s0, (hk.cell (lt_of_cell s1) (fun f => f)).trans s1, (hk.cell (lt_of_cell s2) (fun f => f)).trans s2⟩, (hk.cell (lt_of_cell s3) (fun f => f)).trans s3, (hk.cell (lt_of_cell s4) (fun f => f)).trans s4, (hk.cell (lt_of_cell s5) (fun f => f)).trans s5⟩
      clear hv1 hv2 s0 s1 s2 s3 s4 s5
      cases nt
      · have HP : Hid (plainT (.mk 8 nn [.mk o1 n1 ks1, .mk o2 n2 ks2]) false = binT 8 (plainT (.mk o1 n1 ks1) false) (plainT (.mk o2 n2 ks2) false)) := by simp [Hid, plainT]
        go_enter Tryd.func57, Tryd.ntmps57
        go_upto_region 1 with fail
        rw [← hW0]
        clear hW0
        go_upto_region 18 with fail
        obtain ⟨W1, hW1⟩ : ∃ W1, W1 = W0.alloc (.cells #[.int .i64 0, .int .i64 0, .slice none 0 0] 30) := ⟨_, rfl⟩
        rw [← hW1]
        have q1 : Kept (fun _ => False) W0 W1 := by rw [hW1]; exact (Kept.refl _ _).alloc _
        have b7 : Wb3 W1 W0.heap.size (.int .i64 0) (.int .i64 0) (.slice none 0 0) := by rw [hW1]; exact Wb3.new W0 _ _ _ 30
        clear hW1
        have kw1 := k0.trans q1 (fun _ _ f => f)
        have x1 := X0.out.kept q1
        have r1 := R0.out.kept q1
        obtain ⟨_, ⟨x10, x11, x12⟩, _⟩ := id x1
        obtain ⟨⟨s0, s1, s2⟩, s3, s4, s5⟩ := SC.out W1 kw1
        clear x00 x01 x02 X0 R0
        go_upto_region 19 with fail
        obtain ⟨W2, hW2⟩ : ∃ W2, W2 = W1.alloc (.cells #[.int .i64 o2, .int .i64 n2, .slice ka2 ks2.length kc2] 30) := ⟨_, rfl⟩
        rw [← hW2]
        have q2 : Kept (fun _ => False) W1 W2 := by rw [hW2]; exact (Kept.refl _ _).alloc _
        have b8 : Wb3 W2 W1.heap.size (.int .i64 o2) (.int .i64 n2) (.slice ka2 ks2.length kc2) := by rw [hW2]; exact Wb3.new W1 _ _ _ 30
        clear hW2
        have kw2 := kw1.trans q2 (fun _ _ f => f)
        have x2 := x1.kept q2
        have r2 := r1.kept q2
        have b72 := b7.kept q2
        obtain ⟨_, ⟨x20, x21, x22⟩, _⟩ := id x2
        obtain ⟨_, ⟨c70, c71, c72⟩, c73, c74, c75⟩ := id b72
        have e7 : W0.heap.size < W1.heap.size := b7.1
        clear s0 s1 s2 s3 s4 s5
        obtain ⟨⟨s0, s1, s2⟩, _, _, _⟩ := SC.out W2 kw2
        clear x10 x11 x12 x1 r1 b7
        go_upto_region 21 with fail
        obtain ⟨W3, hW3⟩ : ∃ W3, W3 = (((W2.setCell ⟨W0.heap.size, 0, none⟩ (.int .i64 o1)).setCell ⟨W0.heap.size, 1, none⟩ (.int .i64 n1)).setCell ⟨W0.heap.size, 2, none⟩ (.slice ka1 ks1.length kc1)) := ⟨_, rfl⟩
        rw [← hW3]
        have hk0 := k0.size
        have hq1 := q1.size
        have hq2 := q2.size
        have x3 : Wb3 W3 w.heap.size (.int .i64 8) (.int .i64 nn) (.slice (some ⟨kb, ko, none⟩) 2 kc) := by rw [hW3]; exact x2.other3 (by omega) _ _ _
        have r3 : Wb3 W3 (w.heap.size + 1) (.int .i64 0) (.int .i64 0) (.slice none 0 0) := by rw [hW3]; exact r2.other3 (by omega) _ _ _
        have b73 : Wb3 W3 W0.heap.size (.int .i64 o1) (.int .i64 n1) (.slice ka1 ks1.length kc1) := by rw [hW3]; exact b72.store _ _ _
        have b83 : Wb3 W3 W1.heap.size (.int .i64 o2) (.int .i64 n2) (.slice ka2 ks2.length kc2) := by rw [hW3]; exact b8.other3 (by omega) _ _ _
        have kw3 : Kept (fun _ => False) w W3 := by rw [hW3]; exact kept3 kw2 hk0 _ _ _
        have e3 : W3.heap.size = W2.heap.size := by rw [hW3]; simp [World.setCell]
        have HR7 : Hid (RV W3.heap.size W3 (.agg #[.int .i64 o1, .int .i64 n1, .slice ka1 ks1.length kc1]) (.mk o1 n1 ks1)) := HV1.out.kept kw3
        have KW3 : Hid (Kept (fun _ => False) w W3) := kw3
        have hr3 : w.heap.size + 1 < W3.heap.size := r3.1
        have e8 : W1.heap.size < W3.heap.size := b83.1
        clear hW3 x20 x21 x22 c70 c71 c72 c73 c74 c75 s0 s1 s2 x2 r2 b72 b8 kw2 kw1 q1 q2 SC kw3
        obtain ⟨_, ⟨c70, c71, c72⟩, _⟩ := id b73
        go_upto_region 22 with (go_at_call 57; refine (IH.out (.mk o1 n1 ks1) hs1 ht1 _ _ false HR7.out).mono ?_; rintro e w4 ⟨v', rfl, k4, hF4⟩; obtain ⟨oA, nA, aA, lA, cA, rfl⟩ := hF4.agg)
        obtain ⟨W4, hW4⟩ : ∃ W4, W4 = w4.alloc (.cells #[.int .i64 oA, .int .i64 nA, .slice aA lA cA] 30) := ⟨_, rfl⟩
        rw [← hW4]
        have q4 : Kept (fun _ => False) w4 W4 := by rw [hW4]; exact (Kept.refl _ _).alloc _
        have b94 : Wb3 W4 w4.heap.size (.int .i64 oA) (.int .i64 nA) (.slice aA lA cA) := by rw [hW4]; exact Wb3.new w4 _ _ _ 30
        clear hW4
        have k34 := k4.trans q4 (fun _ _ f => f)
        have kw4 := KW3.out.trans k34 (fun _ _ f => f)
        have r4 := r3.kept k34
        have b74 := b73.kept k34
        have b84 := b83.kept k34
        have RA : Hid (RVS (fun b => W3.heap.size ≤ b ∧ b < w4.heap.size) W4 (.agg #[.int .i64 oA, .int .i64 nA, .slice aA lA cA]) (plainT (.mk o1 n1 ks1) false)) := hF4.kept q4 (fun b hb => hb.2)
        have h34 := k4.size
        have h44 : w4.heap.size < W4.heap.size := b94.1
        clear c70 c71 c72 hF4 b73 b83 r3 x3 HR7
        obtain ⟨_, ⟨c70, c71, c72⟩, _⟩ := id b74
        obtain ⟨_, ⟨c80, c81, c82⟩, _⟩ := id b84
        obtain ⟨_, ⟨c90, c91, c92⟩, c93, c94, c95⟩ := id b94
        have b95 := b94
        have r5 := r4
        have HR8 : Hid (RV W4.heap.size W4 (.agg #[.int .i64 o2, .int .i64 n2, .slice ka2 ks2.length kc2]) (.mk o2 n2 ks2)) := HV2.out.kept kw4
        have RA5 : Hid (RVS (fun b => W3.heap.size ≤ b ∧ b < W4.heap.size) W4 (.agg #[.int .i64 oA, .int .i64 nA, .slice aA lA cA]) (plainT (.mk o1 n1 ks1) false)) := RA.out.keep (fun b hb => ⟨hb.1, by omega⟩) (fun _ _ => rfl)
        go_upto_region 31 with fail
        go_upto_region 32 with (go_at_call 57; refine (IH.out (.mk o2 n2 ks2) hs2 ht2 _ _ false HR8.out).mono ?_; rintro e w6 ⟨v', rfl, k6, hF6⟩; obtain ⟨oB, nB, aB, lB, cB, rfl⟩ := hF6.agg)
        obtain ⟨W6, hW6⟩ : ∃ W6, W6 = w6.alloc (.cells #[.int .i64 oB, .int .i64 nB, .slice aB lB cB] 30) := ⟨_, rfl⟩
        rw [← hW6]
        have q6 : Kept (fun _ => False) w6 W6 := by rw [hW6]; exact (Kept.refl _ _).alloc _
        have b106 : Wb3 W6 w6.heap.size (.int .i64 oB) (.int .i64 nB) (.slice aB lB cB) := by rw [hW6]; exact Wb3.new w6 _ _ _ 30
        clear hW6
        have k56 := k6.trans q6 (fun _ _ f => f)
        have r6 := r5.kept k56
        have b96 := b95.kept k56
        have h56 := k56.size
        have h66 := k6.size
        have h67 : w6.heap.size < W6.heap.size := b106.1
        have RA6 : Hid (RVS (fun b => W3.heap.size ≤ b ∧ b < W6.heap.size) W6 (.agg #[.int .i64 oA, .int .i64 nA, .slice aA lA cA]) (plainT (.mk o1 n1 ks1) false)) := (RA5.out.kept k56 (fun b hb => hb.2)).keep (fun b hb => ⟨hb.1, by omega⟩) (fun _ _ => rfl)
        have RB6 : Hid (RVS (fun b => W3.heap.size ≤ b ∧ b < W6.heap.size) W6 (.agg #[.int .i64 oB, .int .i64 nB, .slice aB lB cB]) (plainT (.mk o2 n2 ks2) false)) := (hF6.kept q6 (fun b hb => hb.2)).keep (fun b hb => ⟨by have := hb.1; omega, by have := hb.2; omega⟩) (fun _ _ => rfl)
        have KW6 : Hid (Kept (fun _ => False) w W6) := kw4.trans k56 (fun _ _ f => f)
        have hr6 := r6.1
        clear c70 c71 c72 c80 c81 c82 c90 c91 c92 c93 c94 c95 hF6
        obtain ⟨_, ⟨c90, c91, c92⟩, _⟩ := id b96
        obtain ⟨_, ⟨d00, d01, d02⟩, _⟩ := id b106
        go_wp2_with (first
          | (go_at_call 93; refine (other93 _ _).mono ?_; rintro e w7 ⟨hw7, rfl⟩; rw [hw7]; clear hw7; rw [show otherO 8 = 8 from rfl])
          | (go_at_call 78; refine (two78 (fun b => W3.heap.size ≤ b ∧ b < W6.heap.size) _ 8 _ _ _ _ (fun b hb => hb.2) RA6.out RB6.out).mono ?_; rintro e w8 ⟨v', rfl, k8, hF8⟩; obtain ⟨oC, nC, aC, lC, cC, rfl⟩ := hF8.agg; obtain ⟨_, ⟨r80, r81, r82⟩, r83, r84, r85⟩ := r6.kept k8; have HF8 : Hid (RVS (fun b => W3.heap.size ≤ b ∧ b < w8.heap.size) w8 (.agg #[.int .i64 oC, .int .i64 nC, .slice aC lC cC]) (binT 8 (plainT (.mk o1 n1 ks1) false) (plainT (.mk o2 n2 ks2) false))) := hF8.keep (fun b hb => hb.elim (fun g => ⟨g.1, Nat.lt_of_lt_of_le g.2 k8.size⟩) (fun g => ⟨by have := g.1; omega, g.2⟩)) (fun _ _ => rfl); clear hF8))
        have hf := fin57 (x := .int .i64 oC) (y := .int .i64 nC) (z := .slice aC lC cC) (r := w.heap.size + 1) (KW6.out.trans k8 (fun _ _ f => f)) (by omega) hr3 HF8.out
        refine bodyPost_ret (v := .agg #[.int .i64 oC, .int .i64 nC, .slice aC lC cC]) (by simp [results, Tryd.results57, go_sem, r80, r81, r82]) rfl ⟨_, rfl, hf.1, ?_⟩
        rw [HP.out]
        exact hf.2
      · have HP : Hid (plainT (.mk 8 nn [.mk o1 n1 ks1, .mk o2 n2 ks2]) true = binT 9 (plainT (.mk o1 n1 ks1) true) (plainT (.mk o2 n2 ks2) true)) := by simp [Hid, plainT, otherO]
        go_enter Tryd.func57, Tryd.ntmps57
        go_upto_region 1 with fail
        rw [← hW0]
        clear hW0
        go_upto_region 18 with fail
        obtain ⟨W1, hW1⟩ : ∃ W1, W1 = W0.alloc (.cells #[.int .i64 0, .int .i64 0, .slice none 0 0] 30) := ⟨_, rfl⟩
        rw [← hW1]
        have q1 : Kept (fun _ => False) W0 W1 := by rw [hW1]; exact (Kept.refl _ _).alloc _
        have b7 : Wb3 W1 W0.heap.size (.int .i64 0) (.int .i64 0) (.slice none 0 0) := by rw [hW1]; exact Wb3.new W0 _ _ _ 30
        clear hW1
        have kw1 := k0.trans q1 (fun _ _ f => f)
        have x1 := X0.out.kept q1
        have r1 := R0.out.kept q1
        obtain ⟨_, ⟨x10, x11, x12⟩, _⟩ := id x1
        obtain ⟨⟨s0, s1, s2⟩, s3, s4, s5⟩ := SC.out W1 kw1
        clear x00 x01 x02 X0 R0
        go_upto_region 19 with fail
        obtain ⟨W2, hW2⟩ : ∃ W2, W2 = W1.alloc (.cells #[.int .i64 o2, .int .i64 n2, .slice ka2 ks2.length kc2] 30) := ⟨_, rfl⟩
        rw [← hW2]
        have q2 : Kept (fun _ => False) W1 W2 := by rw [hW2]; exact (Kept.refl _ _).alloc _
        have b8 : Wb3 W2 W1.heap.size (.int .i64 o2) (.int .i64 n2) (.slice ka2 ks2.length kc2) := by rw [hW2]; exact Wb3.new W1 _ _ _ 30
        clear hW2
        have kw2 := kw1.trans q2 (fun _ _ f => f)
        have x2 := x1.kept q2
        have r2 := r1.kept q2
        have b72 := b7.kept q2
        obtain ⟨_, ⟨x20, x21, x22⟩, _⟩ := id x2
        obtain ⟨_, ⟨c70, c71, c72⟩, c73, c74, c75⟩ := id b72
        have e7 : W0.heap.size < W1.heap.size := b7.1
        clear s0 s1 s2 s3 s4 s5
        obtain ⟨⟨s0, s1, s2⟩, _, _, _⟩ := SC.out W2 kw2
        clear x10 x11 x12 x1 r1 b7
        go_upto_region 21 with fail
        obtain ⟨W3, hW3⟩ : ∃ W3, W3 = (((W2.setCell ⟨W0.heap.size, 0, none⟩ (.int .i64 o1)).setCell ⟨W0.heap.size, 1, none⟩ (.int .i64 n1)).setCell ⟨W0.heap.size, 2, none⟩ (.slice ka1 ks1.length kc1)) := ⟨_, rfl⟩
        rw [← hW3]
        have hk0 := k0.size
        have hq1 := q1.size
        have hq2 := q2.size
        have x3 : Wb3 W3 w.heap.size (.int .i64 8) (.int .i64 nn) (.slice (some ⟨kb, ko, none⟩) 2 kc) := by rw [hW3]; exact x2.other3 (by omega) _ _ _
        have r3 : Wb3 W3 (w.heap.size + 1) (.int .i64 0) (.int .i64 0) (.slice none 0 0) := by rw [hW3]; exact r2.other3 (by omega) _ _ _
        have b73 : Wb3 W3 W0.heap.size (.int .i64 o1) (.int .i64 n1) (.slice ka1 ks1.length kc1) := by rw [hW3]; exact b72.store _ _ _
        have b83 : Wb3 W3 W1.heap.size (.int .i64 o2) (.int .i64 n2) (.slice ka2 ks2.length kc2) := by rw [hW3]; exact b8.other3 (by omega) _ _ _
        have kw3 : Kept (fun _ => False) w W3 := by rw [hW3]; exact kept3 kw2 hk0 _ _ _
        have e3 : W3.heap.size = W2.heap.size := by rw [hW3]; simp [World.setCell]
        have HR7 : Hid (RV W3.heap.size W3 (.agg #[.int .i64 o1, .int .i64 n1, .slice ka1 ks1.length kc1]) (.mk o1 n1 ks1)) := HV1.out.kept kw3
        have KW3 : Hid (Kept (fun _ => False) w W3) := kw3
        have hr3 : w.heap.size + 1 < W3.heap.size := r3.1
        have e8 : W1.heap.size < W3.heap.size := b83.1
        clear hW3 x20 x21 x22 c70 c71 c72 c73 c74 c75 s0 s1 s2 x2 r2 b72 b8 kw2 kw1 q1 q2 SC kw3
        obtain ⟨_, ⟨c70, c71, c72⟩, _⟩ := id b73
        go_upto_region 22 with (go_at_call 57; refine (IH.out (.mk o1 n1 ks1) hs1 ht1 _ _ true HR7.out).mono ?_; rintro e w4 ⟨v', rfl, k4, hF4⟩; obtain ⟨oA, nA, aA, lA, cA, rfl⟩ := hF4.agg)
        obtain ⟨W4, hW4⟩ : ∃ W4, W4 = w4.alloc (.cells #[.int .i64 oA, .int .i64 nA, .slice aA lA cA] 30) := ⟨_, rfl⟩
        rw [← hW4]
        have q4 : Kept (fun _ => False) w4 W4 := by rw [hW4]; exact (Kept.refl _ _).alloc _
        have b94 : Wb3 W4 w4.heap.size (.int .i64 oA) (.int .i64 nA) (.slice aA lA cA) := by rw [hW4]; exact Wb3.new w4 _ _ _ 30
        clear hW4
        have k34 := k4.trans q4 (fun _ _ f => f)
        have kw4 := KW3.out.trans k34 (fun _ _ f => f)
        have r4 := r3.kept k34
        have b74 := b73.kept k34
        have b84 := b83.kept k34
        have RA : Hid (RVS (fun b => W3.heap.size ≤ b ∧ b < w4.heap.size) W4 (.agg #[.int .i64 oA, .int .i64 nA, .slice aA lA cA]) (plainT (.mk o1 n1 ks1) true)) := hF4.kept q4 (fun b hb => hb.2)
        have h34 := k4.size
        have h44 : w4.heap.size < W4.heap.size := b94.1
        clear c70 c71 c72 hF4 b73 b83 r3 x3 HR7
        obtain ⟨_, ⟨c70, c71, c72⟩, _⟩ := id b74
        obtain ⟨_, ⟨c80, c81, c82⟩, _⟩ := id b84
        obtain ⟨_, ⟨c90, c91, c92⟩, c93, c94, c95⟩ := id b94
        have b95 := b94
        have r5 := r4
        have HR8 : Hid (RV W4.heap.size W4 (.agg #[.int .i64 o2, .int .i64 n2, .slice ka2 ks2.length kc2]) (.mk o2 n2 ks2)) := HV2.out.kept kw4
        have RA5 : Hid (RVS (fun b => W3.heap.size ≤ b ∧ b < W4.heap.size) W4 (.agg #[.int .i64 oA, .int .i64 nA, .slice aA lA cA]) (plainT (.mk o1 n1 ks1) true)) := RA.out.keep (fun b hb => ⟨hb.1, by omega⟩) (fun _ _ => rfl)
        go_upto_region 31 with fail
        go_upto_region 32 with (go_at_call 57; refine (IH.out (.mk o2 n2 ks2) hs2 ht2 _ _ true HR8.out).mono ?_; rintro e w6 ⟨v', rfl, k6, hF6⟩; obtain ⟨oB, nB, aB, lB, cB, rfl⟩ := hF6.agg)
        obtain ⟨W6, hW6⟩ : ∃ W6, W6 = w6.alloc (.cells #[.int .i64 oB, .int .i64 nB, .slice aB lB cB] 30) := ⟨_, rfl⟩
        rw [← hW6]
        have q6 : Kept (fun _ => False) w6 W6 := by rw [hW6]; exact (Kept.refl _ _).alloc _
        have b106 : Wb3 W6 w6.heap.size (.int .i64 oB) (.int .i64 nB) (.slice aB lB cB) := by rw [hW6]; exact Wb3.new w6 _ _ _ 30
        clear hW6
        have k56 := k6.trans q6 (fun _ _ f => f)
        have r6 := r5.kept k56
        have b96 := b95.kept k56
        have h56 := k56.size
        have h66 := k6.size
        have h67 : w6.heap.size < W6.heap.size := b106.1
        have RA6 : Hid (RVS (fun b => W3.heap.size ≤ b ∧ b < W6.heap.size) W6 (.agg #[.int .i64 oA, .int .i64 nA, .slice aA lA cA]) (plainT (.mk o1 n1 ks1) true)) := (RA5.out.kept k56 (fun b hb => hb.2)).keep (fun b hb => ⟨hb.1, by omega⟩) (fun _ _ => rfl)
        have RB6 : Hid (RVS (fun b => W3.heap.size ≤ b ∧ b < W6.heap.size) W6 (.agg #[.int .i64 oB, .int .i64 nB, .slice aB lB cB]) (plainT (.mk o2 n2 ks2) true)) := (hF6.kept q6 (fun b hb => hb.2)).keep (fun b hb => ⟨by have := hb.1; omega, by have := hb.2; omega⟩) (fun _ _ => rfl)
        have KW6 : Hid (Kept (fun _ => False) w W6) := kw4.trans k56 (fun _ _ f => f)
        have hr6 := r6.1
        clear c70 c71 c72 c80 c81 c82 c90 c91 c92 c93 c94 c95 hF6
        obtain ⟨_, ⟨c90, c91, c92⟩, _⟩ := id b96
        obtain ⟨_, ⟨d00, d01, d02⟩, _⟩ := id b106
        go_wp2_with (first
          | (go_at_call 93; refine (other93 _ _).mono ?_; rintro e w7 ⟨hw7, rfl⟩; rw [hw7]; clear hw7; rw [show otherO 8 = 9 from rfl])
          | (go_at_call 78; refine (two78 (fun b => W3.heap.size ≤ b ∧ b < W6.heap.size) _ 9 _ _ _ _ (fun b hb => hb.2) RA6.out RB6.out).mono ?_; rintro e w8 ⟨v', rfl, k8, hF8⟩; obtain ⟨oC, nC, aC, lC, cC, rfl⟩ := hF8.agg; obtain ⟨_, ⟨r80, r81, r82⟩, r83, r84, r85⟩ := r6.kept k8; have HF8 : Hid (RVS (fun b => W3.heap.size ≤ b ∧ b < w8.heap.size) w8 (.agg #[.int .i64 oC, .int .i64 nC, .slice aC lC cC]) (binT 9 (plainT (.mk o1 n1 ks1) true) (plainT (.mk o2 n2 ks2) true))) := hF8.keep (fun b hb => hb.elim (fun g => ⟨g.1, Nat.lt_of_lt_of_le g.2 k8.size⟩) (fun g => ⟨by have := g.1; omega, g.2⟩)) (fun _ _ => rfl); clear hF8))
        have hf := fin57 (x := .int .i64 oC) (y := .int .i64 nC) (z := .slice aC lC cC) (r := w.heap.size + 1) (KW6.out.trans k8 (fun _ _ f => f)) (by omega) hr3 HF8.out
        refine bodyPost_ret (v := .agg #[.int .i64 oC, .int .i64 nC, .slice aC lC cC]) (by simp [results, Tryd.results57, go_sem, r80, r81, r82]) rfl ⟨_, rfl, hf.1, ?_⟩
        rw [HP.out]
        exact hf.2
    · obtain ⟨t1, t2, rfl⟩ : ∃ t1 t2, kids = [t1, t2] := len_two (by have h := HKL.out; rw [show kidC 9 = 2 from rfl] at h; omega)
      have hka := HKA.out (by simp)
      subst hka
      have ht1 : t1.well := HKW.out.1
      have ht2 : t2.well := HKW.out.2.1
      have hs1 : t1.size ≤ N := by simp only [Tr.sizes] at hsz; omega
      have hs2 : t2.size ≤ N := by simp only [Tr.sizes] at hsz; omega
      obtain ⟨W0, hW0⟩ : ∃ W0, W0 = ((w.alloc (.cells #[.int .i64 9, .int .i64 nn, .slice (some ⟨kb, ko, none⟩) 2 kc] 30)).alloc (.cells #[.int .i64 0, .int .i64 0, .slice none 0 0] 30)) := ⟨_, rfl⟩
      have k0 : Kept (fun _ => False) w W0 := by rw [hW0]; exact ((Kept.refl _ _).alloc _).alloc _
      have x0 : Wb3 W0 w.heap.size (.int .i64 9) (.int .i64 nn) (.slice (some ⟨kb, ko, none⟩) 2 kc) := by rw [hW0]; exact (Wb3.new w _ _ _ 30).kept ((Kept.refl _ _).alloc _)
      have r0 : Wb3 W0 (w.heap.size + 1) (.int .i64 0) (.int .i64 0) (.slice none 0 0) := by
        rw [hW0]
        have h := Wb3.new (w.alloc (.cells #[.int .i64 9, .int .i64 nn, .slice (some ⟨kb, ko, none⟩) 2 kc] 30)) (.int .i64 0) (.int .i64 0) (.slice none 0 0) 30
        simpa using h
      have R0 : Hid (Wb3 W0 (w.heap.size + 1) (.int .i64 0) (.int .i64 0) (.slice none 0 0)) := r0
      have X0 : Hid (Wb3 W0 w.heap.size (.int .i64 9) (.int .i64 nn) (.slice (some ⟨kb, ko, none⟩) 2 kc)) := x0
      have hr0 : w.heap.size + 1 < W0.heap.size := r0.1
      obtain ⟨_, ⟨x00, x01, x02⟩, _⟩ := x0
      clear r0
      obtain ⟨o1, n1, ks1⟩ := t1
      obtain ⟨o2, n2, ks2⟩ := t2
      obtain ⟨ka1, kc1, s0, s1, s2, hv1⟩ := HKS.out.1.val
      obtain ⟨ka2, kc2, s3, s4, s5, hv2⟩ := HKS.out.2.1.val
      have HV1 : Hid (RV w.heap.size w (.agg #[.int .i64 o1, .int .i64 n1, .slice ka1 ks1.length kc1]) (.mk o1 n1 ks1)) := hv1
      have HV2 : Hid (RV w.heap.size w (.agg #[.int .i64 o2, .int .i64 n2, .slice ka2 ks2.length kc2]) (.mk o2 n2 ks2)) := hv2
      have SC : Hid (∀ W, Kept (fun _ => False) w W → (W.cell? ⟨kb, ko, none⟩ = some (.int .i64 o1) ∧ W.cell? ⟨kb, ko + 1, none⟩ = some (.int .i64 n1) ∧ W.cell? ⟨kb, ko + 2, none⟩ = some (.slice ka1 ks1.length kc1)) ∧ W.cell? ⟨kb, ko + 3, none⟩ = some (.int .i64 o2) ∧ W.cell? ⟨kb, ko + 3 + 1, none⟩ = some (.int .i64 n2) ∧ W.cell? ⟨kb, ko + 3 + 2, none⟩ = some (.slice ka2 ks2.length kc2)) := fun W hk => ⟨⟨(hk.cell (lt_of_cell s0) (fun f => f)).trans s0, (hk.cell (lt_of_cell s1) (fun f => f)).trans s1, (hk.cell (lt_of_cell s2) (fun f => f)).trans s2⟩, (hk.cell (lt_of_cell s3) (fun f => f)).trans s3, (hk.cell (lt_of_cell s4) (fun f => f)).trans s4, (hk.cell (lt_of_cell s5) (fun f => f)).trans s5⟩
      clear hv1 hv2 s0 s1 s2 s3 s4 s5
      cases nt
      · have HP : Hid (plainT (.mk 9 nn [.mk o1 n1 ks1, .mk o2 n2 ks2]) false = binT 9 (plainT (.mk o1 n1 ks1) false) (plainT (.mk o2 n2 ks2) false)) := by simp [Hid, plainT]
        go_enter Tryd.func57, Tryd.ntmps57
        go_upto_region 1 with fail
        rw [← hW0]
        clear hW0
        go_upto_region 18 with fail
        obtain ⟨W1, hW1⟩ : ∃ W1, W1 = W0.alloc (.cells #[.int .i64 0, .int .i64 0, .slice none 0 0] 30) := ⟨_, rfl⟩
        rw [← hW1]
        have q1 : Kept (fun _ => False) W0 W1 := by rw [hW1]; exact (Kept.refl _ _).alloc _
        have b7 : Wb3 W1 W0.heap.size (.int .i64 0) (.int .i64 0) (.slice none 0 0) := by rw [hW1]; exact Wb3.new W0 _ _ _ 30
        clear hW1
        have kw1 := k0.trans q1 (fun _ _ f => f)
        have x1 := X0.out.kept q1
        have r1 := R0.out.kept q1
        obtain ⟨_, ⟨x10, x11, x12⟩, _⟩ := id x1
        obtain ⟨⟨s0, s1, s2⟩, s3, s4, s5⟩ := SC.out W1 kw1
        clear x00 x01 x02 X0 R0
        go_upto_region 19 with fail
        obtain ⟨W2, hW2⟩ : ∃ W2, W2 = W1.alloc (.cells #[.int .i64 o2, .int .i64 n2, .slice ka2 ks2.length kc2] 30) := ⟨_, rfl⟩
        rw [← hW2]
        have q2 : Kept (fun _ => False) W1 W2 := by rw [hW2]; exact (Kept.refl _ _).alloc _
        have b8 : Wb3 W2 W1.heap.size (.int .i64 o2) (.int .i64 n2) (.slice ka2 ks2.length kc2) := by rw [hW2]; exact Wb3.new W1 _ _ _ 30
        clear hW2
        have kw2 := kw1.trans q2 (fun _ _ f => f)
        have x2 := x1.kept q2
        have r2 := r1.kept q2
        have b72 := b7.kept q2
        obtain ⟨_, ⟨x20, x21, x22⟩, _⟩ := id x2
        obtain ⟨_, ⟨c70, c71, c72⟩, c73, c74, c75⟩ := id b72
        have e7 : W0.heap.size < W1.heap.size := b7.1
        clear s0 s1 s2 s3 s4 s5
        obtain ⟨⟨s0, s1, s2⟩, _, _, _⟩ := SC.out W2 kw2
        clear x10 x11 x12 x1 r1 b7
        go_upto_region 21 with fail
        obtain ⟨W3, hW3⟩ : ∃ W3, W3 = (((W2.setCell ⟨W0.heap.size, 0, none⟩ (.int .i64 o1)).setCell ⟨W0.heap.size, 1, none⟩ (.int .i64 n1)).setCell ⟨W0.heap.size, 2, none⟩ (.slice ka1 ks1.length kc1)) := ⟨_, rfl⟩
        rw [← hW3]
        have hk0 := k0.size
        have hq1 := q1.size
        have hq2 := q2.size
        have x3 : Wb3 W3 w.heap.size (.int .i64 9) (.int .i64 nn) (.slice (some ⟨kb, ko, none⟩) 2 kc) := by rw [hW3]; exact x2.other3 (by omega) _ _ _
        have r3 : Wb3 W3 (w.heap.size + 1) (.int .i64 0) (.int .i64 0) (.slice none 0 0) := by rw [hW3]; exact r2.other3 (by omega) _ _ _
        have b73 : Wb3 W3 W0.heap.size (.int .i64 o1) (.int .i64 n1) (.slice ka1 ks1.length kc1) := by rw [hW3]; exact b72.store _ _ _
        have b83 : Wb3 W3 W1.heap.size (.int .i64 o2) (.int .i64 n2) (.slice ka2 ks2.length kc2) := by rw [hW3]; exact b8.other3 (by omega) _ _ _
        have kw3 : Kept (fun _ => False) w W3 := by rw [hW3]; exact kept3 kw2 hk0 _ _ _
        have e3 : W3.heap.size = W2.heap.size := by rw [hW3]; simp [World.setCell]
        have HR7 : Hid (RV W3.heap.size W3 (.agg #[.int .i64 o1, .int .i64 n1, .slice ka1 ks1.length kc1]) (.mk o1 n1 ks1)) := HV1.out.kept kw3
        have KW3 : Hid (Kept (fun _ => False) w W3) := kw3
        have hr3 : w.heap.size + 1 < W3.heap.size := r3.1
        have e8 : W1.heap.size < W3.heap.size := b83.1
        clear hW3 x20 x21 x22 c70 c71 c72 c73 c74 c75 s0 s1 s2 x2 r2 b72 b8 kw2 kw1 q1 q2 SC kw3
        obtain ⟨_, ⟨c70, c71, c72⟩, _⟩ := id b73
        go_upto_region 22 with (go_at_call 57; refine (IH.out (.mk o1 n1 ks1) hs1 ht1 _ _ false HR7.out).mono ?_; rintro e w4 ⟨v', rfl, k4, hF4⟩; obtain ⟨oA, nA, aA, lA, cA, rfl⟩ := hF4.agg)
        obtain ⟨W4, hW4⟩ : ∃ W4, W4 = w4.alloc (.cells #[.int .i64 oA, .int .i64 nA, .slice aA lA cA] 30) := ⟨_, rfl⟩
        rw [← hW4]
        have q4 : Kept (fun _ => False) w4 W4 := by rw [hW4]; exact (Kept.refl _ _).alloc _
        have b94 : Wb3 W4 w4.heap.size (.int .i64 oA) (.int .i64 nA) (.slice aA lA cA) := by rw [hW4]; exact Wb3.new w4 _ _ _ 30
        clear hW4
        have k34 := k4.trans q4 (fun _ _ f => f)
        have kw4 := KW3.out.trans k34 (fun _ _ f => f)
        have r4 := r3.kept k34
        have b74 := b73.kept k34
        have b84 := b83.kept k34
        have RA : Hid (RVS (fun b => W3.heap.size ≤ b ∧ b < w4.heap.size) W4 (.agg #[.int .i64 oA, .int .i64 nA, .slice aA lA cA]) (plainT (.mk o1 n1 ks1) false)) := hF4.kept q4 (fun b hb => hb.2)
        have h34 := k4.size
        have h44 : w4.heap.size < W4.heap.size := b94.1
        clear c70 c71 c72 hF4 b73 b83 r3 x3 HR7
        obtain ⟨_, ⟨c70, c71, c72⟩, _⟩ := id b74
        obtain ⟨_, ⟨c80, c81, c82⟩, _⟩ := id b84
        obtain ⟨_, ⟨c90, c91, c92⟩, c93, c94, c95⟩ := id b94
        have b95 := b94
        have r5 := r4
        have HR8 : Hid (RV W4.heap.size W4 (.agg #[.int .i64 o2, .int .i64 n2, .slice ka2 ks2.length kc2]) (.mk o2 n2 ks2)) := HV2.out.kept kw4
        have RA5 : Hid (RVS (fun b => W3.heap.size ≤ b ∧ b < W4.heap.size) W4 (.agg #[.int .i64 oA, .int .i64 nA, .slice aA lA cA]) (plainT (.mk o1 n1 ks1) false)) := RA.out.keep (fun b hb => ⟨hb.1, by omega⟩) (fun _ _ => rfl)
        go_upto_region 31 with fail
        go_upto_region 32 with (go_at_call 57; refine (IH.out (.mk o2 n2 ks2) hs2 ht2 _ _ false HR8.out).mono ?_; rintro e w6 ⟨v', rfl, k6, hF6⟩; obtain ⟨oB, nB, aB, lB, cB, rfl⟩ := hF6.agg)
        obtain ⟨W6, hW6⟩ : ∃ W6, W6 = w6.alloc (.cells #[.int .i64 oB, .int .i64 nB, .slice aB lB cB] 30) := ⟨_, rfl⟩
        rw [← hW6]
        have q6 : Kept (fun _ => False) w6 W6 := by rw [hW6]; exact (Kept.refl _ _).alloc _
        have b106 : Wb3 W6 w6.heap.size (.int .i64 oB) (.int .i64 nB) (.slice aB lB cB) := by rw [hW6]; exact Wb3.new w6 _ _ _ 30
        clear hW6
        have k56 := k6.trans q6 (fun _ _ f => f)
        have r6 := r5.kept k56
        have b96 := b95.kept k56
        have h56 := k56.size
        have h66 := k6.size
        have h67 : w6.heap.size < W6.heap.size := b106.1
        have RA6 : Hid (RVS (fun b => W3.heap.size ≤ b ∧ b < W6.heap.size) W6 (.agg #[.int .i64 oA, .int .i64 nA, .slice aA lA cA]) (plainT (.mk o1 n1 ks1) false)) := (RA5.out.kept k56 (fun b hb => hb.2)).keep (fun b hb => ⟨hb.1, by omega⟩) (fun _ _ => rfl)
        have RB6 : Hid (RVS (fun b => W3.heap.size ≤ b ∧ b < W6.heap.size) W6 (.agg #[.int .i64 oB, .int .i64 nB, .slice aB lB cB]) (plainT (.mk o2 n2 ks2) false)) := (hF6.kept q6 (fun b hb => hb.2)).keep (fun b hb => ⟨by have := hb.1; omega, by have := hb.2; omega⟩) (fun _ _ => rfl)
        have KW6 : Hid (Kept (fun _ => False) w W6) := kw4.trans k56 (fun _ _ f => f)
        have hr6 := r6.1
        clear c70 c71 c72 c80 c81 c82 c90 c91 c92 c93 c94 c95 hF6
        obtain ⟨_, ⟨c90, c91, c92⟩, _⟩ := id b96
        obtain ⟨_, ⟨d00, d01, d02⟩, _⟩ := id b106
        go_wp2_with (first
          | (go_at_call 93; refine (other93 _ _).mono ?_; rintro e w7 ⟨hw7, rfl⟩; rw [hw7]; clear hw7; rw [show otherO 9 = 9 from rfl])
          | (go_at_call 78; refine (two78 (fun b => W3.heap.size ≤ b ∧ b < W6.heap.size) _ 9 _ _ _ _ (fun b hb => hb.2) RA6.out RB6.out).mono ?_; rintro e w8 ⟨v', rfl, k8, hF8⟩; obtain ⟨oC, nC, aC, lC, cC, rfl⟩ := hF8.agg; obtain ⟨_, ⟨r80, r81, r82⟩, r83, r84, r85⟩ := r6.kept k8; have HF8 : Hid (RVS (fun b => W3.heap.size ≤ b ∧ b < w8.heap.size) w8 (.agg #[.int .i64 oC, .int .i64 nC, .slice aC lC cC]) (binT 9 (plainT (.mk o1 n1 ks1) false) (plainT (.mk o2 n2 ks2) false))) := hF8.keep (fun b hb => hb.elim (fun g => ⟨g.1, Nat.lt_of_lt_of_le g.2 k8.size⟩) (fun g => ⟨by have := g.1; omega, g.2⟩)) (fun _ _ => rfl); clear hF8))
        have hf := fin57 (x := .int .i64 oC) (y := .int .i64 nC) (z := .slice aC lC cC) (r := w.heap.size + 1) (KW6.out.trans k8 (fun _ _ f => f)) (by omega) hr3 HF8.out
        refine bodyPost_ret (v := .agg #[.int .i64 oC, .int .i64 nC, .slice aC lC cC]) (by simp [results, Tryd.results57, go_sem, r80, r81, r82]) rfl ⟨_, rfl, hf.1, ?_⟩
        rw [HP.out]
        exact hf.2
      · have HP : Hid (plainT (.mk 9 nn [.mk o1 n1 ks1, .mk o2 n2 ks2]) true = binT 8 (plainT (.mk o1 n1 ks1) true) (plainT (.mk o2 n2 ks2) true)) := by simp [Hid, plainT, otherO]
        go_enter Tryd.func57, Tryd.ntmps57
        go_upto_region 1 with fail
        rw [← hW0]
        clear hW0
        go_upto_region 18 with fail
        obtain ⟨W1, hW1⟩ : ∃ W1, W1 = W0.alloc (.cells #[.int .i64 0, .int .i64 0, .slice none 0 0] 30) := ⟨_, rfl⟩
        rw [← hW1]
        have q1 : Kept (fun _ => False) W0 W1 := by rw [hW1]; exact (Kept.refl _ _).alloc _
        have b7 : Wb3 W1 W0.heap.size (.int .i64 0) (.int .i64 0) (.slice none 0 0) := by rw [hW1]; exact Wb3.new W0 _ _ _ 30
        clear hW1
        have kw1 := k0.trans q1 (fun _ _ f => f)
        have x1 := X0.out.kept q1
        have r1 := R0.out.kept q1
        obtain ⟨_, ⟨x10, x11, x12⟩, _⟩ := id x1
        obtain ⟨⟨s0, s1, s2⟩, s3, s4, s5⟩ := SC.out W1 kw1
        clear x00 x01 x02 X0 R0
        go_upto_region 19 with fail
        obtain ⟨W2, hW2⟩ : ∃ W2, W2 = W1.alloc (.cells #[.int .i64 o2, .int .i64 n2, .slice ka2 ks2.length kc2] 30) := ⟨_, rfl⟩
        rw [← hW2]
        have q2 : Kept (fun _ => False) W1 W2 := by rw [hW2]; exact (Kept.refl _ _).alloc _
        have b8 : Wb3 W2 W1.heap.size (.int .i64 o2) (.int .i64 n2) (.slice ka2 ks2.length kc2) := by rw [hW2]; exact Wb3.new W1 _ _ _ 30
        clear hW2
        have kw2 := kw1.trans q2 (fun _ _ f => f)
        have x2 := x1.kept q2
        have r2 := r1.kept q2
        have b72 := b7.kept q2
        obtain ⟨_, ⟨x20, x21, x22⟩, _⟩ := id x2
        obtain ⟨_, ⟨c70, c71, c72⟩, c73, c74, c75⟩ := id b72
        have e7 : W0.heap.size < W1.heap.size := b7.1
        clear s0 s1 s2 s3 s4 s5
        obtain ⟨⟨s0, s1, s2⟩, _, _, _⟩ := SC.out W2 kw2
        clear x10 x11 x12 x1 r1 b7
        go_upto_region 21 with fail
        obtain ⟨W3, hW3⟩ : ∃ W3, W3 = (((W2.setCell ⟨W0.heap.size, 0, none⟩ (.int .i64 o1)).setCell ⟨W0.heap.size, 1, none⟩ (.int .i64 n1)).setCell ⟨W0.heap.size, 2, none⟩ (.slice ka1 ks1.length kc1)) := ⟨_, rfl⟩
        rw [← hW3]
        have hk0 := k0.size
        have hq1 := q1.size
        have hq2 := q2.size
        have x3 : Wb3 W3 w.heap.size (.int .i64 9) (.int .i64 nn) (.slice (some ⟨kb, ko, none⟩) 2 kc) := by rw [hW3]; exact x2.other3 (by omega) _ _ _
        have r3 : Wb3 W3 (w.heap.size + 1) (.int .i64 0) (.int .i64 0) (.slice none 0 0) := by rw [hW3]; exact r2.other3 (by omega) _ _ _
        have b73 : Wb3 W3 W0.heap.size (.int .i64 o1) (.int .i64 n1) (.slice ka1 ks1.length kc1) := by rw [hW3]; exact b72.store _ _ _
        have b83 : Wb3 W3 W1.heap.size (.int .i64 o2) (.int .i64 n2) (.slice ka2 ks2.length kc2) := by rw [hW3]; exact b8.other3 (by omega) _ _ _
        have kw3 : Kept (fun _ => False) w W3 := by rw [hW3]; exact kept3 kw2 hk0 _ _ _
        have e3 : W3.heap.size = W2.heap.size := by rw [hW3]; simp [World.setCell]
        have HR7 : Hid (RV W3.heap.size W3 (.agg #[.int .i64 o1, .int .i64 n1, .slice ka1 ks1.length kc1]) (.mk o1 n1 ks1)) := HV1.out.kept kw3
        have KW3 : Hid (Kept (fun _ => False) w W3) := kw3
        have hr3 : w.heap.size + 1 < W3.heap.size := r3.1
        have e8 : W1.heap.size < W3.heap.size := b83.1
        clear hW3 x20 x21 x22 c70 c71 c72 c73 c74 c75 s0 s1 s2 x2 r2 b72 b8 kw2 kw1 q1 q2 SC kw3
        obtain ⟨_, ⟨c70, c71, c72⟩, _⟩ := id b73
        go_upto_region 22 with (go_at_call 57; refine (IH.out (.mk o1 n1 ks1) hs1 ht1 _ _ true HR7.out).mono ?_; rintro e w4 ⟨v', rfl, k4, hF4⟩; obtain ⟨oA, nA, aA, lA, cA, rfl⟩ := hF4.agg)
        obtain ⟨W4, hW4⟩ : ∃ W4, W4 = w4.alloc (.cells #[.int .i64 oA, .int .i64 nA, .slice aA lA cA] 30) := ⟨_, rfl⟩
        rw [← hW4]
        have q4 : Kept (fun _ => False) w4 W4 := by rw [hW4]; exact (Kept.refl _ _).alloc _
        have b94 : Wb3 W4 w4.heap.size (.int .i64 oA) (.int .i64 nA) (.slice aA lA cA) := by rw [hW4]; exact Wb3.new w4 _ _ _ 30
        clear hW4
        have k34 := k4.trans q4 (fun _ _ f => f)
        have kw4 := KW3.out.trans k34 (fun _ _ f => f)
        have r4 := r3.kept k34
        have b74 := b73.kept k34
        have b84 := b83.kept k34
        have RA : Hid (RVS (fun b => W3.heap.size ≤ b ∧ b < w4.heap.size) W4 (.agg #[.int .i64 oA, .int .i64 nA, .slice aA lA cA]) (plainT (.mk o1 n1 ks1) true)) := hF4.kept q4 (fun b hb => hb.2)
        have h34 := k4.size
        have h44 : w4.heap.size < W4.heap.size := b94.1
        clear c70 c71 c72 hF4 b73 b83 r3 x3 HR7
        obtain ⟨_, ⟨c70, c71, c72⟩, _⟩ := id b74
        obtain ⟨_, ⟨c80, c81, c82⟩, _⟩ := id b84
        obtain ⟨_, ⟨c90, c91, c92⟩, c93, c94, c95⟩ := id b94
        have b95 := b94
        have r5 := r4
        have HR8 : Hid (RV W4.heap.size W4 (.agg #[.int .i64 o2, .int .i64 n2, .slice ka2 ks2.length kc2]) (.mk o2 n2 ks2)) := HV2.out.kept kw4
        have RA5 : Hid (RVS (fun b => W3.heap.size ≤ b ∧ b < W4.heap.size) W4 (.agg #[.int .i64 oA, .int .i64 nA, .slice aA lA cA]) (plainT (.mk o1 n1 ks1) true)) := RA.out.keep (fun b hb => ⟨hb.1, by omega⟩) (fun _ _ => rfl)
        go_upto_region 31 with fail
        go_upto_region 32 with (go_at_call 57; refine (IH.out (.mk o2 n2 ks2) hs2 ht2 _ _ true HR8.out).mono ?_; rintro e w6 ⟨v', rfl, k6, hF6⟩; obtain ⟨oB, nB, aB, lB, cB, rfl⟩ := hF6.agg)
        obtain ⟨W6, hW6⟩ : ∃ W6, W6 = w6.alloc (.cells #[.int .i64 oB, .int .i64 nB, .slice aB lB cB] 30) := ⟨_, rfl⟩
        rw [← hW6]
        have q6 : Kept (fun _ => False) w6 W6 := by rw [hW6]; exact (Kept.refl _ _).alloc _
        have b106 : Wb3 W6 w6.heap.size (.int .i64 oB) (.int .i64 nB) (.slice aB lB cB) := by rw [hW6]; exact Wb3.new w6 _ _ _ 30
        clear hW6
        have k56 := k6.trans q6 (fun _ _ f => f)
        have r6 := r5.kept k56
        have b96 := b95.kept k56
        have h56 := k56.size
        have h66 := k6.size
        have h67 : w6.heap.size < W6.heap.size := b106.1
        have RA6 : Hid (RVS (fun b => W3.heap.size ≤ b ∧ b < W6.heap.size) W6 (.agg #[.int .i64 oA, .int .i64 nA, .slice aA lA cA]) (plainT (.mk o1 n1 ks1) true)) := (RA5.out.kept k56 (fun b hb => hb.2)).keep (fun b hb => ⟨hb.1, by omega⟩) (fun _ _ => rfl)
        have RB6 : Hid (RVS (fun b => W3.heap.size ≤ b ∧ b < W6.heap.size) W6 (.agg #[.int .i64 oB, .int .i64 nB, .slice aB lB cB]) (plainT (.mk o2 n2 ks2) true)) := (hF6.kept q6 (fun b hb => hb.2)).keep (fun b hb => ⟨by have := hb.1; omega, by have := hb.2; omega⟩) (fun _ _ => rfl)
        have KW6 : Hid (Kept (fun _ => False) w W6) := kw4.trans k56 (fun _ _ f => f)
        have hr6 := r6.1
        clear c70 c71 c72 c80 c81 c82 c90 c91 c92 c93 c94 c95 hF6
        obtain ⟨_, ⟨c90, c91, c92⟩, _⟩ := id b96
        obtain ⟨_, ⟨d00, d01, d02⟩, _⟩ := id b106
        go_wp2_with (first
          | (go_at_call 93; refine (other93 _ _).mono ?_; rintro e w7 ⟨hw7, rfl⟩; rw [hw7]; clear hw7; rw [show otherO 9 = 8 from rfl])
          | (go_at_call 78; refine (two78 (fun b => W3.heap.size ≤ b ∧ b < W6.heap.size) _ 8 _ _ _ _ (fun b hb => hb.2) RA6.out RB6.out).mono ?_; rintro e w8 ⟨v', rfl, k8, hF8⟩; obtain ⟨oC, nC, aC, lC, cC, rfl⟩ := hF8.agg; obtain ⟨_, ⟨r80, r81, r82⟩, r83, r84, r85⟩ := r6.kept k8; have HF8 : Hid (RVS (fun b => W3.heap.size ≤ b ∧ b < w8.heap.size) w8 (.agg #[.int .i64 oC, .int .i64 nC, .slice aC lC cC]) (binT 8 (plainT (.mk o1 n1 ks1) true) (plainT (.mk o2 n2 ks2) true))) := hF8.keep (fun b hb => hb.elim (fun g => ⟨g.1, Nat.lt_of_lt_of_le g.2 k8.size⟩) (fun g => ⟨by have := g.1; omega, g.2⟩)) (fun _ _ => rfl); clear hF8))
        have hf := fin57 (x := .int .i64 oC) (y := .int .i64 nC) (z := .slice aC lC cC) (r := w.heap.size + 1) (KW6.out.trans k8 (fun _ _ f => f)) (by omega) hr3 HF8.out
        refine bodyPost_ret (v := .agg #[.int .i64 oC, .int .i64 nC, .slice aC lC cC]) (by simp [results, Tryd.results57, go_sem, r80, r81, r82]) rfl ⟨_, rfl, hf.1, ?_⟩
        rw [HP.out]
        exact hf.2
    · obtain ⟨t1, rfl⟩ : ∃ t1, kids = [t1] := List.length_eq_one_iff.1 (by have h := HKL.out; rw [show kidC 10 = 1 from rfl] at h; omega)
      have hka := HKA.out (by simp)
      subst hka
      have ht1 : t1.well := HKW.out.1
      have hs1 : t1.size ≤ N := by simp only [Tr.sizes] at hsz; omega
      have hN1 : 1 ≤ N := Nat.le_trans t1.size_pos hs1
      have hl0 : (Tr.mk 0 0 []).size ≤ N := by simpa [Tr.size, Tr.sizes] using hN1
      have hl1 : (Tr.mk 1 0 []).size ≤ N := by simpa [Tr.size, Tr.sizes] using hN1
      have hw0 : (Tr.mk 0 0 []).well := ⟨by unfold wellN; decide, trivial⟩
      have hw1 : (Tr.mk 1 0 []).well := ⟨by unfold wellN; decide, trivial⟩
      obtain ⟨W0, hW0⟩ : ∃ W0, W0 = ((w.alloc (.cells #[.int .i64 10, .int .i64 nn, .slice (some ⟨kb, ko, none⟩) 1 kc] 30)).alloc (.cells #[.int .i64 0, .int .i64 0, .slice none 0 0] 30)) := ⟨_, rfl⟩
      have k0 : Kept (fun _ => False) w W0 := by rw [hW0]; exact ((Kept.refl _ _).alloc _).alloc _
      have x0 : Wb3 W0 w.heap.size (.int .i64 10) (.int .i64 nn) (.slice (some ⟨kb, ko, none⟩) 1 kc) := by rw [hW0]; exact (Wb3.new w _ _ _ 30).kept ((Kept.refl _ _).alloc _)
      have r0 : Wb3 W0 (w.heap.size + 1) (.int .i64 0) (.int .i64 0) (.slice none 0 0) := by
        rw [hW0]
        have h := Wb3.new (w.alloc (.cells #[.int .i64 10, .int .i64 nn, .slice (some ⟨kb, ko, none⟩) 1 kc] 30)) (.int .i64 0) (.int .i64 0) (.slice none 0 0) 30
        simpa using h
      have R0 : Hid (Wb3 W0 (w.heap.size + 1) (.int .i64 0) (.int .i64 0) (.slice none 0 0)) := r0
      have X0 : Hid (Wb3 W0 w.heap.size (.int .i64 10) (.int .i64 nn) (.slice (some ⟨kb, ko, none⟩) 1 kc)) := x0
      have hr0 : w.heap.size + 1 < W0.heap.size := r0.1
      obtain ⟨_, ⟨x00, x01, x02⟩, _⟩ := x0
      clear r0
      obtain ⟨o1, n1, ks1⟩ := t1
      obtain ⟨ka1, kc1, s0, s1, s2, hv1⟩ := HKS.out.1.val
      have HV1 : Hid (RV w.heap.size w (.agg #[.int .i64 o1, .int .i64 n1, .slice ka1 ks1.length kc1]) (.mk o1 n1 ks1)) := hv1
      have SC : Hid (∀ W, Kept (fun _ => False) w W → W.cell? ⟨kb, ko, none⟩ = some (.int .i64 o1) ∧ W.cell? ⟨kb, ko + 1, none⟩ = some (.int .i64 n1) ∧ W.cell? ⟨kb, ko + 2, none⟩ = some (.slice ka1 ks1.length kc1)) := fun W hk => ⟨(hk.cell (lt_of_cell s0) (fun f => f)).trans s0, (hk.cell (lt_of_cell s1) (fun f => f)).trans s1, (hk.cell (lt_of_cell s2) (fun f => f)).trans s2⟩
      clear hv1 s0 s1 s2
      cases nt
      · have HP : Hid (plainT (.mk 10 nn [.mk o1 n1 ks1]) false = binT 8 (plainT (.mk 0 0 []) false) (plainT (.mk o1 n1 ks1) false)) := by simp [Hid, plainT]
        go_enter Tryd.func57, Tryd.ntmps57
        go_upto_region 1 with fail
        rw [← hW0]
        clear hW0
        go_upto_region 18 with fail
        obtain ⟨W1, hW1⟩ : ∃ W1, W1 = W0.alloc (.cells #[.int .i64 0, .int .i64 0, .slice none 0 0] 30) := ⟨_, rfl⟩
        rw [← hW1]
        have q1 : Kept (fun _ => False) W0 W1 := by rw [hW1]; exact (Kept.refl _ _).alloc _
        have b7 : Wb3 W1 W0.heap.size (.int .i64 0) (.int .i64 0) (.slice none 0 0) := by rw [hW1]; exact Wb3.new W0 _ _ _ 30
        clear hW1
        have kw1 := k0.trans q1 (fun _ _ f => f)
        have x1 := X0.out.kept q1
        have r1 := R0.out.kept q1
        obtain ⟨_, ⟨x10, x11, x12⟩, _⟩ := id x1
        obtain ⟨s0, s1, s2⟩ := SC.out W1 kw1
        clear x00 x01 x02 X0 R0
        go_upto_region 19 with fail
        obtain ⟨W3, hW3⟩ : ∃ W3, W3 = W1.alloc (.cells #[.int .i64 o1, .int .i64 n1, .slice ka1 ks1.length kc1] 30) := ⟨_, rfl⟩
        rw [← hW3]
        have q2 : Kept (fun _ => False) W1 W3 := by rw [hW3]; exact (Kept.refl _ _).alloc _
        have b83 : Wb3 W3 W1.heap.size (.int .i64 o1) (.int .i64 n1) (.slice ka1 ks1.length kc1) := by rw [hW3]; exact Wb3.new W1 _ _ _ 30
        clear hW3
        have kw3 := kw1.trans q2 (fun _ _ f => f)
        have x3 := x1.kept q2
        have r3 := r1.kept q2
        have b73 := b7.kept q2
        have e7 : W0.heap.size < W1.heap.size := b7.1
        have hk0 := k0.size
        have hq1 := q1.size
        have hq2 := q2.size
        have HR7 : Hid (RV W3.heap.size W3 (.agg #[.int .i64 0, .int .i64 0, .slice none 0 0]) (.mk 0 0 [])) := RV.leaf _ _ _ _
        have KW3 : Hid (Kept (fun _ => False) w W3) := kw3
        have hr3 : w.heap.size + 1 < W3.heap.size := r3.1
        have e8 : W1.heap.size < W3.heap.size := b83.1
        clear s0 s1 s2 x10 x11 x12 x1 r1 b7 kw1 q1 q2 SC kw3
        obtain ⟨_, ⟨x20, x21, x22⟩, _⟩ := id x3
        obtain ⟨_, ⟨c70, c71, c72⟩, _⟩ := id b73
        go_upto_region 22 with (go_at_call 57; refine (IH.out (.mk 0 0 []) hl0 hw0 _ _ false HR7.out).mono ?_; rintro e w4 ⟨v', rfl, k4, hF4⟩; obtain ⟨oA, nA, aA, lA, cA, rfl⟩ := hF4.agg)
        obtain ⟨W4, hW4⟩ : ∃ W4, W4 = w4.alloc (.cells #[.int .i64 oA, .int .i64 nA, .slice aA lA cA] 30) := ⟨_, rfl⟩
        rw [← hW4]
        have q4 : Kept (fun _ => False) w4 W4 := by rw [hW4]; exact (Kept.refl _ _).alloc _
        have b94 : Wb3 W4 w4.heap.size (.int .i64 oA) (.int .i64 nA) (.slice aA lA cA) := by rw [hW4]; exact Wb3.new w4 _ _ _ 30
        clear hW4
        have k34 := k4.trans q4 (fun _ _ f => f)
        have kw4 := KW3.out.trans k34 (fun _ _ f => f)
        have r4 := r3.kept k34
        have b74 := b73.kept k34
        have b84 := b83.kept k34
        have RA : Hid (RVS (fun b => W3.heap.size ≤ b ∧ b < w4.heap.size) W4 (.agg #[.int .i64 oA, .int .i64 nA, .slice aA lA cA]) (plainT (.mk 0 0 []) false)) := hF4.kept q4 (fun b hb => hb.2)
        have h34 := k4.size
        have h44 : w4.heap.size < W4.heap.size := b94.1
        clear x20 x21 x22 c70 c71 c72 hF4 b73 b83 r3 x3 HR7
        obtain ⟨_, ⟨c70, c71, c72⟩, _⟩ := id b74
        obtain ⟨_, ⟨c80, c81, c82⟩, _⟩ := id b84
        obtain ⟨_, ⟨c90, c91, c92⟩, c93, c94, c95⟩ := id b94
        have b95 := b94
        have r5 := r4
        have HR8 : Hid (RV W4.heap.size W4 (.agg #[.int .i64 o1, .int .i64 n1, .slice ka1 ks1.length kc1]) (.mk o1 n1 ks1)) := HV1.out.kept kw4
        have RA5 : Hid (RVS (fun b => W3.heap.size ≤ b ∧ b < W4.heap.size) W4 (.agg #[.int .i64 oA, .int .i64 nA, .slice aA lA cA]) (plainT (.mk 0 0 []) false)) := RA.out.keep (fun b hb => ⟨hb.1, by omega⟩) (fun _ _ => rfl)
        go_upto_region 31 with fail
        go_upto_region 32 with (go_at_call 57; refine (IH.out (.mk o1 n1 ks1) hs1 ht1 _ _ false HR8.out).mono ?_; rintro e w6 ⟨v', rfl, k6, hF6⟩; obtain ⟨oB, nB, aB, lB, cB, rfl⟩ := hF6.agg)
        obtain ⟨W6, hW6⟩ : ∃ W6, W6 = w6.alloc (.cells #[.int .i64 oB, .int .i64 nB, .slice aB lB cB] 30) := ⟨_, rfl⟩
        rw [← hW6]
        have q6 : Kept (fun _ => False) w6 W6 := by rw [hW6]; exact (Kept.refl _ _).alloc _
        have b106 : Wb3 W6 w6.heap.size (.int .i64 oB) (.int .i64 nB) (.slice aB lB cB) := by rw [hW6]; exact Wb3.new w6 _ _ _ 30
        clear hW6
        have k56 := k6.trans q6 (fun _ _ f => f)
        have r6 := r5.kept k56
        have b96 := b95.kept k56
        have h56 := k56.size
        have h66 := k6.size
        have h67 : w6.heap.size < W6.heap.size := b106.1
        have RA6 : Hid (RVS (fun b => W3.heap.size ≤ b ∧ b < W6.heap.size) W6 (.agg #[.int .i64 oA, .int .i64 nA, .slice aA lA cA]) (plainT (.mk 0 0 []) false)) := (RA5.out.kept k56 (fun b hb => hb.2)).keep (fun b hb => ⟨hb.1, by omega⟩) (fun _ _ => rfl)
        have RB6 : Hid (RVS (fun b => W3.heap.size ≤ b ∧ b < W6.heap.size) W6 (.agg #[.int .i64 oB, .int .i64 nB, .slice aB lB cB]) (plainT (.mk o1 n1 ks1) false)) := (hF6.kept q6 (fun b hb => hb.2)).keep (fun b hb => ⟨by have := hb.1; omega, by have := hb.2; omega⟩) (fun _ _ => rfl)
        have KW6 : Hid (Kept (fun _ => False) w W6) := kw4.trans k56 (fun _ _ f => f)
        have hr6 := r6.1
        clear c70 c71 c72 c80 c81 c82 c90 c91 c92 c93 c94 c95 hF6
        obtain ⟨_, ⟨c90, c91, c92⟩, _⟩ := id b96
        obtain ⟨_, ⟨d00, d01, d02⟩, _⟩ := id b106
        go_wp2_with (first
          | (go_at_call 93; refine (other93 _ _).mono ?_; rintro e w7 ⟨hw7, rfl⟩; rw [hw7]; clear hw7; rw [show otherO 8 = 8 from rfl])
          | (go_at_call 78; refine (two78 (fun b => W3.heap.size ≤ b ∧ b < W6.heap.size) _ 8 _ _ _ _ (fun b hb => hb.2) RA6.out RB6.out).mono ?_; rintro e w8 ⟨v', rfl, k8, hF8⟩; obtain ⟨oC, nC, aC, lC, cC, rfl⟩ := hF8.agg; obtain ⟨_, ⟨r80, r81, r82⟩, r83, r84, r85⟩ := r6.kept k8; have HF8 : Hid (RVS (fun b => W3.heap.size ≤ b ∧ b < w8.heap.size) w8 (.agg #[.int .i64 oC, .int .i64 nC, .slice aC lC cC]) (binT 8 (plainT (.mk 0 0 []) false) (plainT (.mk o1 n1 ks1) false))) := hF8.keep (fun b hb => hb.elim (fun g => ⟨g.1, Nat.lt_of_lt_of_le g.2 k8.size⟩) (fun g => ⟨by have := g.1; omega, g.2⟩)) (fun _ _ => rfl); clear hF8))
        have hf := fin57 (x := .int .i64 oC) (y := .int .i64 nC) (z := .slice aC lC cC) (r := w.heap.size + 1) (KW6.out.trans k8 (fun _ _ f => f)) (by omega) hr3 HF8.out
        refine bodyPost_ret (v := .agg #[.int .i64 oC, .int .i64 nC, .slice aC lC cC]) (by simp [results, Tryd.results57, go_sem, r80, r81, r82]) rfl ⟨_, rfl, hf.1, ?_⟩
        rw [HP.out]
        exact hf.2
      · have HP : Hid (plainT (.mk 10 nn [.mk o1 n1 ks1]) true = binT 9 (plainT (.mk 0 0 []) true) (plainT (.mk o1 n1 ks1) true)) := by simp [Hid, plainT]
        go_enter Tryd.func57, Tryd.ntmps57
        go_upto_region 1 with fail
        rw [← hW0]
        clear hW0
        go_upto_region 18 with fail
        obtain ⟨W1, hW1⟩ : ∃ W1, W1 = W0.alloc (.cells #[.int .i64 0, .int .i64 0, .slice none 0 0] 30) := ⟨_, rfl⟩
        rw [← hW1]
        have q1 : Kept (fun _ => False) W0 W1 := by rw [hW1]; exact (Kept.refl _ _).alloc _
        have b7 : Wb3 W1 W0.heap.size (.int .i64 0) (.int .i64 0) (.slice none 0 0) := by rw [hW1]; exact Wb3.new W0 _ _ _ 30
        clear hW1
        have kw1 := k0.trans q1 (fun _ _ f => f)
        have x1 := X0.out.kept q1
        have r1 := R0.out.kept q1
        obtain ⟨_, ⟨x10, x11, x12⟩, _⟩ := id x1
        obtain ⟨s0, s1, s2⟩ := SC.out W1 kw1
        clear x00 x01 x02 X0 R0
        go_upto_region 19 with fail
        obtain ⟨W3, hW3⟩ : ∃ W3, W3 = W1.alloc (.cells #[.int .i64 o1, .int .i64 n1, .slice ka1 ks1.length kc1] 30) := ⟨_, rfl⟩
        rw [← hW3]
        have q2 : Kept (fun _ => False) W1 W3 := by rw [hW3]; exact (Kept.refl _ _).alloc _
        have b83 : Wb3 W3 W1.heap.size (.int .i64 o1) (.int .i64 n1) (.slice ka1 ks1.length kc1) := by rw [hW3]; exact Wb3.new W1 _ _ _ 30
        clear hW3
        have kw3 := kw1.trans q2 (fun _ _ f => f)
        have x3 := x1.kept q2
        have r3 := r1.kept q2
        have b73 := b7.kept q2
        have e7 : W0.heap.size < W1.heap.size := b7.1
        have hk0 := k0.size
        have hq1 := q1.size
        have hq2 := q2.size
        have HR7 : Hid (RV W3.heap.size W3 (.agg #[.int .i64 0, .int .i64 0, .slice none 0 0]) (.mk 0 0 [])) := RV.leaf _ _ _ _
        have KW3 : Hid (Kept (fun _ => False) w W3) := kw3
        have hr3 : w.heap.size + 1 < W3.heap.size := r3.1
        have e8 : W1.heap.size < W3.heap.size := b83.1
        clear s0 s1 s2 x10 x11 x12 x1 r1 b7 kw1 q1 q2 SC kw3
        obtain ⟨_, ⟨x20, x21, x22⟩, _⟩ := id x3
        obtain ⟨_, ⟨c70, c71, c72⟩, _⟩ := id b73
        go_upto_region 22 with (go_at_call 57; refine (IH.out (.mk 0 0 []) hl0 hw0 _ _ true HR7.out).mono ?_; rintro e w4 ⟨v', rfl, k4, hF4⟩; obtain ⟨oA, nA, aA, lA, cA, rfl⟩ := hF4.agg)
        obtain ⟨W4, hW4⟩ : ∃ W4, W4 = w4.alloc (.cells #[.int .i64 oA, .int .i64 nA, .slice aA lA cA] 30) := ⟨_, rfl⟩
        rw [← hW4]
        have q4 : Kept (fun _ => False) w4 W4 := by rw [hW4]; exact (Kept.refl _ _).alloc _
        have b94 : Wb3 W4 w4.heap.size (.int .i64 oA) (.int .i64 nA) (.slice aA lA cA) := by rw [hW4]; exact Wb3.new w4 _ _ _ 30
        clear hW4
        have k34 := k4.trans q4 (fun _ _ f => f)
        have kw4 := KW3.out.trans k34 (fun _ _ f => f)
        have r4 := r3.kept k34
        have b74 := b73.kept k34
        have b84 := b83.kept k34
        have RA : Hid (RVS (fun b => W3.heap.size ≤ b ∧ b < w4.heap.size) W4 (.agg #[.int .i64 oA, .int .i64 nA, .slice aA lA cA]) (plainT (.mk 0 0 []) true)) := hF4.kept q4 (fun b hb => hb.2)
        have h34 := k4.size
        have h44 : w4.heap.size < W4.heap.size := b94.1
        clear x20 x21 x22 c70 c71 c72 hF4 b73 b83 r3 x3 HR7
        obtain ⟨_, ⟨c70, c71, c72⟩, _⟩ := id b74
        obtain ⟨_, ⟨c80, c81, c82⟩, _⟩ := id b84
        obtain ⟨_, ⟨c90, c91, c92⟩, c93, c94, c95⟩ := id b94
        have b95 := b94
        have r5 := r4
        have HR8 : Hid (RV W4.heap.size W4 (.agg #[.int .i64 o1, .int .i64 n1, .slice ka1 ks1.length kc1]) (.mk o1 n1 ks1)) := HV1.out.kept kw4
        have RA5 : Hid (RVS (fun b => W3.heap.size ≤ b ∧ b < W4.heap.size) W4 (.agg #[.int .i64 oA, .int .i64 nA, .slice aA lA cA]) (plainT (.mk 0 0 []) true)) := RA.out.keep (fun b hb => ⟨hb.1, by omega⟩) (fun _ _ => rfl)
        go_upto_region 31 with fail
        go_upto_region 32 with (go_at_call 57; refine (IH.out (.mk o1 n1 ks1) hs1 ht1 _ _ true HR8.out).mono ?_; rintro e w6 ⟨v', rfl, k6, hF6⟩; obtain ⟨oB, nB, aB, lB, cB, rfl⟩ := hF6.agg)
        obtain ⟨W6, hW6⟩ : ∃ W6, W6 = w6.alloc (.cells #[.int .i64 oB, .int .i64 nB, .slice aB lB cB] 30) := ⟨_, rfl⟩
        rw [← hW6]
        have q6 : Kept (fun _ => False) w6 W6 := by rw [hW6]; exact (Kept.refl _ _).alloc _
        have b106 : Wb3 W6 w6.heap.size (.int .i64 oB) (.int .i64 nB) (.slice aB lB cB) := by rw [hW6]; exact Wb3.new w6 _ _ _ 30
        clear hW6
        have k56 := k6.trans q6 (fun _ _ f => f)
        have r6 := r5.kept k56
        have b96 := b95.kept k56
        have h56 := k56.size
        have h66 := k6.size
        have h67 : w6.heap.size < W6.heap.size := b106.1
        have RA6 : Hid (RVS (fun b => W3.heap.size ≤ b ∧ b < W6.heap.size) W6 (.agg #[.int .i64 oA, .int .i64 nA, .slice aA lA cA]) (plainT (.mk 0 0 []) true)) := (RA5.out.kept k56 (fun b hb => hb.2)).keep (fun b hb => ⟨hb.1, by omega⟩) (fun _ _ => rfl)
        have RB6 : Hid (RVS (fun b => W3.heap.size ≤ b ∧ b < W6.heap.size) W6 (.agg #[.int .i64 oB, .int .i64 nB, .slice aB lB cB]) (plainT (.mk o1 n1 ks1) true)) := (hF6.kept q6 (fun b hb => hb.2)).keep (fun b hb => ⟨by have := hb.1; omega, by have := hb.2; omega⟩) (fun _ _ => rfl)
        have KW6 : Hid (Kept (fun _ => False) w W6) := kw4.trans k56 (fun _ _ f => f)
        have hr6 := r6.1
        clear c70 c71 c72 c80 c81 c82 c90 c91 c92 c93 c94 c95 hF6
        obtain ⟨_, ⟨c90, c91, c92⟩, _⟩ := id b96
        obtain ⟨_, ⟨d00, d01, d02⟩, _⟩ := id b106
        go_wp2_with (first
          | (go_at_call 93; refine (other93 _ _).mono ?_; rintro e w7 ⟨hw7, rfl⟩; rw [hw7]; clear hw7; rw [show otherO 8 = 9 from rfl])
          | (go_at_call 78; refine (two78 (fun b => W3.heap.size ≤ b ∧ b < W6.heap.size) _ 9 _ _ _ _ (fun b hb => hb.2) RA6.out RB6.out).mono ?_; rintro e w8 ⟨v', rfl, k8, hF8⟩; obtain ⟨oC, nC, aC, lC, cC, rfl⟩ := hF8.agg; obtain ⟨_, ⟨r80, r81, r82⟩, r83, r84, r85⟩ := r6.kept k8; have HF8 : Hid (RVS (fun b => W3.heap.size ≤ b ∧ b < w8.heap.size) w8 (.agg #[.int .i64 oC, .int .i64 nC, .slice aC lC cC]) (binT 9 (plainT (.mk 0 0 []) true) (plainT (.mk o1 n1 ks1) true))) := hF8.keep (fun b hb => hb.elim (fun g => ⟨g.1, Nat.lt_of_lt_of_le g.2 k8.size⟩) (fun g => ⟨by have := g.1; omega, g.2⟩)) (fun _ _ => rfl); clear hF8))
        have hf := fin57 (x := .int .i64 oC) (y := .int .i64 nC) (z := .slice aC lC cC) (r := w.heap.size + 1) (KW6.out.trans k8 (fun _ _ f => f)) (by omega) hr3 HF8.out
        refine bodyPost_ret (v := .agg #[.int .i64 oC, .int .i64 nC, .slice aC lC cC]) (by simp [results, Tryd.results57, go_sem, r80, r81, r82]) rfl ⟨_, rfl, hf.1, ?_⟩
        rw [HP.out]
        exact hf.2
    · obtain ⟨t1, rfl⟩ : ∃ t1, kids = [t1] := List.length_eq_one_iff.1 (by have h := HKL.out; rw [show kidC 11 = 1 from rfl] at h; omega)
      have hka := HKA.out (by simp)
      subst hka
      have ht1 : t1.well := HKW.out.1
      have hs1 : t1.size ≤ N := by simp only [Tr.sizes] at hsz; omega
      have hN1 : 1 ≤ N := Nat.le_trans t1.size_pos hs1
      have hl0 : (Tr.mk 0 0 []).size ≤ N := by simpa [Tr.size, Tr.sizes] using hN1
      have hl1 : (Tr.mk 1 0 []).size ≤ N := by simpa [Tr.size, Tr.sizes] using hN1
      have hw0 : (Tr.mk 0 0 []).well := ⟨by unfold wellN; decide, trivial⟩
      have hw1 : (Tr.mk 1 0 []).well := ⟨by unfold wellN; decide, trivial⟩
      obtain ⟨W0, hW0⟩ : ∃ W0, W0 = ((w.alloc (.cells #[.int .i64 11, .int .i64 nn, .slice (some ⟨kb, ko, none⟩) 1 kc] 30)).alloc (.cells #[.int .i64 0, .int .i64 0, .slice none 0 0] 30)) := ⟨_, rfl⟩
      have k0 : Kept (fun _ => False) w W0 := by rw [hW0]; exact ((Kept.refl _ _).alloc _).alloc _
      have x0 : Wb3 W0 w.heap.size (.int .i64 11) (.int .i64 nn) (.slice (some ⟨kb, ko, none⟩) 1 kc) := by rw [hW0]; exact (Wb3.new w _ _ _ 30).kept ((Kept.refl _ _).alloc _)
      have r0 : Wb3 W0 (w.heap.size + 1) (.int .i64 0) (.int .i64 0) (.slice none 0 0) := by
        rw [hW0]
        have h := Wb3.new (w.alloc (.cells #[.int .i64 11, .int .i64 nn, .slice (some ⟨kb, ko, none⟩) 1 kc] 30)) (.int .i64 0) (.int .i64 0) (.slice none 0 0) 30
        simpa using h
      have R0 : Hid (Wb3 W0 (w.heap.size + 1) (.int .i64 0) (.int .i64 0) (.slice none 0 0)) := r0
      have X0 : Hid (Wb3 W0 w.heap.size (.int .i64 11) (.int .i64 nn) (.slice (some ⟨kb, ko, none⟩) 1 kc)) := x0
      have hr0 : w.heap.size + 1 < W0.heap.size := r0.1
      obtain ⟨_, ⟨x00, x01, x02⟩, _⟩ := x0
      clear r0
      obtain ⟨o1, n1, ks1⟩ := t1
      obtain ⟨ka1, kc1, s0, s1, s2, hv1⟩ := HKS.out.1.val
      have HV1 : Hid (RV w.heap.size w (.agg #[.int .i64 o1, .int .i64 n1, .slice ka1 ks1.length kc1]) (.mk o1 n1 ks1)) := hv1
      have SC : Hid (∀ W, Kept (fun _ => False) w W → W.cell? ⟨kb, ko, none⟩ = some (.int .i64 o1) ∧ W.cell? ⟨kb, ko + 1, none⟩ = some (.int .i64 n1) ∧ W.cell? ⟨kb, ko + 2, none⟩ = some (.slice ka1 ks1.length kc1)) := fun W hk => ⟨(hk.cell (lt_of_cell s0) (fun f => f)).trans s0, (hk.cell (lt_of_cell s1) (fun f => f)).trans s1, (hk.cell (lt_of_cell s2) (fun f => f)).trans s2⟩
      clear hv1 s0 s1 s2
      cases nt
      · have HP : Hid (plainT (.mk 11 nn [.mk o1 n1 ks1]) false = binT 9 (plainT (.mk 1 0 []) false) (plainT (.mk o1 n1 ks1) false)) := by simp [Hid, plainT]
        go_enter Tryd.func57, Tryd.ntmps57
        go_upto_region 1 with fail
        rw [← hW0]
        clear hW0
        go_upto_region 18 with fail
        obtain ⟨W1, hW1⟩ : ∃ W1, W1 = W0.alloc (.cells #[.int .i64 0, .int .i64 0, .slice none 0 0] 30) := ⟨_, rfl⟩
        rw [← hW1]
        have q1 : Kept (fun _ => False) W0 W1 := by rw [hW1]; exact (Kept.refl _ _).alloc _
        have b7 : Wb3 W1 W0.heap.size (.int .i64 0) (.int .i64 0) (.slice none 0 0) := by rw [hW1]; exact Wb3.new W0 _ _ _ 30
        clear hW1
        have kw1 := k0.trans q1 (fun _ _ f => f)
        have x1 := X0.out.kept q1
        have r1 := R0.out.kept q1
        obtain ⟨_, ⟨x10, x11, x12⟩, _⟩ := id x1
        obtain ⟨s0, s1, s2⟩ := SC.out W1 kw1
        clear x00 x01 x02 X0 R0
        go_upto_region 19 with fail
        obtain ⟨W3, hW3⟩ : ∃ W3, W3 = W1.alloc (.cells #[.int .i64 o1, .int .i64 n1, .slice ka1 ks1.length kc1] 30) := ⟨_, rfl⟩
        rw [← hW3]
        have q2 : Kept (fun _ => False) W1 W3 := by rw [hW3]; exact (Kept.refl _ _).alloc _
        have b83 : Wb3 W3 W1.heap.size (.int .i64 o1) (.int .i64 n1) (.slice ka1 ks1.length kc1) := by rw [hW3]; exact Wb3.new W1 _ _ _ 30
        clear hW3
        have kw3 := kw1.trans q2 (fun _ _ f => f)
        have x3 := x1.kept q2
        have r3 := r1.kept q2
        have b73 := b7.kept q2
        have e7 : W0.heap.size < W1.heap.size := b7.1
        have hk0 := k0.size
        have hq1 := q1.size
        have hq2 := q2.size
        have HR7 : Hid (RV W3.heap.size W3 (.agg #[.int .i64 0, .int .i64 0, .slice none 0 0]) (.mk 0 0 [])) := RV.leaf _ _ _ _
        have KW3 : Hid (Kept (fun _ => False) w W3) := kw3
        have hr3 : w.heap.size + 1 < W3.heap.size := r3.1
        have e8 : W1.heap.size < W3.heap.size := b83.1
        clear s0 s1 s2 x10 x11 x12 x1 r1 b7 kw1 q1 q2 SC kw3
        obtain ⟨_, ⟨x20, x21, x22⟩, _⟩ := id x3
        obtain ⟨_, ⟨c70, c71, c72⟩, _⟩ := id b73
        go_upto_region 22 with (go_at_call 57; refine (IH.out (.mk 0 0 []) hl0 hw0 _ _ false HR7.out).mono ?_; rintro e w4 ⟨v', rfl, k4, hF4⟩; obtain ⟨oA, nA, aA, lA, cA, rfl⟩ := hF4.agg)
        obtain ⟨W4, hW4⟩ : ∃ W4, W4 = w4.alloc (.cells #[.int .i64 oA, .int .i64 nA, .slice aA lA cA] 30) := ⟨_, rfl⟩
        rw [← hW4]
        have q4 : Kept (fun _ => False) w4 W4 := by rw [hW4]; exact (Kept.refl _ _).alloc _
        have b94 : Wb3 W4 w4.heap.size (.int .i64 oA) (.int .i64 nA) (.slice aA lA cA) := by rw [hW4]; exact Wb3.new w4 _ _ _ 30
        clear hW4
        have k34 := k4.trans q4 (fun _ _ f => f)
        have kw4 := KW3.out.trans k34 (fun _ _ f => f)
        have r4 := r3.kept k34
        have b74 := b73.kept k34
        have b84 := b83.kept k34
        have RA : Hid (RVS (fun b => W3.heap.size ≤ b ∧ b < w4.heap.size) W4 (.agg #[.int .i64 oA, .int .i64 nA, .slice aA lA cA]) (plainT (.mk 0 0 []) false)) := hF4.kept q4 (fun b hb => hb.2)
        have h34 := k4.size
        have h44 : w4.heap.size < W4.heap.size := b94.1
        clear x20 x21 x22 c70 c71 c72 hF4 b73 b83 r3 x3 HR7
        obtain ⟨_, ⟨c70, c71, c72⟩, _⟩ := id b74
        obtain ⟨_, ⟨c80, c81, c82⟩, _⟩ := id b84
        obtain ⟨_, ⟨c90, c91, c92⟩, c93, c94, c95⟩ := id b94
        have HRc : Hid (RV W4.heap.size W4 (.agg #[.int .i64 1, .int .i64 0, .slice none 0 0]) (.mk 1 0 [])) := RV.leaf _ _ _ _
        go_upto_region 31 with (go_at_call 57; refine (IH.out (.mk 1 0 []) hl1 hw1 _ _ false HRc.out).mono ?_; rintro e w5 ⟨v', rfl, k5, hF5⟩; obtain ⟨oE, nE, aE, lE, cE, rfl⟩ := hF5.agg; obtain ⟨_, ⟨e90, e91, e92⟩, e93, e94, e95⟩ := b94.kept k5; have HF5 : Hid (RVS (fun b => W4.heap.size ≤ b ∧ b < w5.heap.size) w5 (.agg #[.int .i64 oE, .int .i64 nE, .slice aE lE cE]) (plainT (.mk 1 0 []) false)) := hF5; clear hF5)
        obtain ⟨W5, hW5⟩ : ∃ W5, W5 = (((w5.setCell ⟨w4.heap.size, 0, none⟩ (.int .i64 oE)).setCell ⟨w4.heap.size, 1, none⟩ (.int .i64 nE)).setCell ⟨w4.heap.size, 2, none⟩ (.slice aE lE cE)) := ⟨_, rfl⟩
        rw [← hW5]
        have hk4 := KW3.out.size
        have h45 := k5.size
        have hrw : w.heap.size + 1 < w4.heap.size := by omega
        have r5 : Wb3 W5 (w.heap.size + 1) (.int .i64 0) (.int .i64 0) (.slice none 0 0) := by rw [hW5]; exact (r4.kept k5).other3 (by omega) _ _ _
        have hb8 : W1.heap.size < w4.heap.size := by omega
        have b85 : Wb3 W5 W1.heap.size (.int .i64 o1) (.int .i64 n1) (.slice ka1 ks1.length kc1) := by rw [hW5]; exact (b84.kept k5).other3 (by omega) _ _ _
        have b95 : Wb3 W5 w4.heap.size (.int .i64 oE) (.int .i64 nE) (.slice aE lE cE) := by rw [hW5]; exact (b94.kept k5).store _ _ _
        have kw5 : Kept (fun _ => False) w W5 := by rw [hW5]; exact kept3 (kw4.trans k5 (fun _ _ f => f)) (by omega) _ _ _
        have e5 : W5.heap.size = w5.heap.size := by rw [hW5]; simp [World.setCell]
        have RA5 : Hid (RVS (fun b => W3.heap.size ≤ b ∧ b < W5.heap.size) W5 (.agg #[.int .i64 oE, .int .i64 nE, .slice aE lE cE]) (plainT (.mk 1 0 []) false)) := by
          rw [hW5]
          have hn : ¬ (W4.heap.size ≤ w4.heap.size ∧ w4.heap.size < w5.heap.size) := by omega
          exact (((HF5.out.set (p := ⟨w4.heap.size, 0, none⟩) hn _).set (p := ⟨w4.heap.size, 1, none⟩) hn _).set (p := ⟨w4.heap.size, 2, none⟩) hn _).keep (fun b hb => ⟨by have := hb.1; omega, by rw [← hW5, e5]; exact hb.2⟩) (fun _ _ => rfl)
        have HR8 : Hid (RV W5.heap.size W5 (.agg #[.int .i64 o1, .int .i64 n1, .slice ka1 ks1.length kc1]) (.mk o1 n1 ks1)) := HV1.out.kept kw5
        clear hW5 c70 c71 c72 c80 c81 c82 c90 c91 c92 c93 c94 c95 e90 e91 e92 e93 e94 e95 HF5
        obtain ⟨_, ⟨c80, c81, c82⟩, _⟩ := id b85
        go_upto_region 32 with (go_at_call 57; refine (IH.out (.mk o1 n1 ks1) hs1 ht1 _ _ false HR8.out).mono ?_; rintro e w6 ⟨v', rfl, k6, hF6⟩; obtain ⟨oB, nB, aB, lB, cB, rfl⟩ := hF6.agg)
        obtain ⟨W6, hW6⟩ : ∃ W6, W6 = w6.alloc (.cells #[.int .i64 oB, .int .i64 nB, .slice aB lB cB] 30) := ⟨_, rfl⟩
        rw [← hW6]
        have q6 : Kept (fun _ => False) w6 W6 := by rw [hW6]; exact (Kept.refl _ _).alloc _
        have b106 : Wb3 W6 w6.heap.size (.int .i64 oB) (.int .i64 nB) (.slice aB lB cB) := by rw [hW6]; exact Wb3.new w6 _ _ _ 30
        clear hW6
        have k56 := k6.trans q6 (fun _ _ f => f)
        have r6 := r5.kept k56
        have b96 := b95.kept k56
        have h56 := k56.size
        have h66 := k6.size
        have h67 : w6.heap.size < W6.heap.size := b106.1
        have RA6 : Hid (RVS (fun b => W3.heap.size ≤ b ∧ b < W6.heap.size) W6 (.agg #[.int .i64 oE, .int .i64 nE, .slice aE lE cE]) (plainT (.mk 1 0 []) false)) := (RA5.out.kept k56 (fun b hb => hb.2)).keep (fun b hb => ⟨hb.1, by omega⟩) (fun _ _ => rfl)
        have RB6 : Hid (RVS (fun b => W3.heap.size ≤ b ∧ b < W6.heap.size) W6 (.agg #[.int .i64 oB, .int .i64 nB, .slice aB lB cB]) (plainT (.mk o1 n1 ks1) false)) := (hF6.kept q6 (fun b hb => hb.2)).keep (fun b hb => ⟨by have := hb.1; omega, by have := hb.2; omega⟩) (fun _ _ => rfl)
        have KW6 : Hid (Kept (fun _ => False) w W6) := kw5.trans k56 (fun _ _ f => f)
        have hr6 := r6.1
        clear c80 c81 c82 hF6
        obtain ⟨_, ⟨c90, c91, c92⟩, _⟩ := id b96
        obtain ⟨_, ⟨d00, d01, d02⟩, _⟩ := id b106
        go_wp2_with (first
          | (go_at_call 93; refine (other93 _ _).mono ?_; rintro e w7 ⟨hw7, rfl⟩; rw [hw7]; clear hw7; rw [show otherO 9 = 9 from rfl])
          | (go_at_call 78; refine (two78 (fun b => W3.heap.size ≤ b ∧ b < W6.heap.size) _ 9 _ _ _ _ (fun b hb => hb.2) RA6.out RB6.out).mono ?_; rintro e w8 ⟨v', rfl, k8, hF8⟩; obtain ⟨oC, nC, aC, lC, cC, rfl⟩ := hF8.agg; obtain ⟨_, ⟨r80, r81, r82⟩, r83, r84, r85⟩ := r6.kept k8; have HF8 : Hid (RVS (fun b => W3.heap.size ≤ b ∧ b < w8.heap.size) w8 (.agg #[.int .i64 oC, .int .i64 nC, .slice aC lC cC]) (binT 9 (plainT (.mk 1 0 []) false) (plainT (.mk o1 n1 ks1) false))) := hF8.keep (fun b hb => hb.elim (fun g => ⟨g.1, Nat.lt_of_lt_of_le g.2 k8.size⟩) (fun g => ⟨by have := g.1; omega, g.2⟩)) (fun _ _ => rfl); clear hF8))
        have hf := fin57 (x := .int .i64 oC) (y := .int .i64 nC) (z := .slice aC lC cC) (r := w.heap.size + 1) (KW6.out.trans k8 (fun _ _ f => f)) (by omega) hr3 HF8.out
        refine bodyPost_ret (v := .agg #[.int .i64 oC, .int .i64 nC, .slice aC lC cC]) (by simp [results, Tryd.results57, go_sem, r80, r81, r82]) rfl ⟨_, rfl, hf.1, ?_⟩
        rw [HP.out]
        exact hf.2
      · have HP : Hid (plainT (.mk 11 nn [.mk o1 n1 ks1]) true = binT 8 (plainT (.mk 1 0 []) true) (plainT (.mk o1 n1 ks1) true)) := by simp [Hid, plainT]
        go_enter Tryd.func57, Tryd.ntmps57
        go_upto_region 1 with fail
        rw [← hW0]
        clear hW0
        go_upto_region 18 with fail
        obtain ⟨W1, hW1⟩ : ∃ W1, W1 = W0.alloc (.cells #[.int .i64 0, .int .i64 0, .slice none 0 0] 30) := ⟨_, rfl⟩
        rw [← hW1]
        have q1 : Kept (fun _ => False) W0 W1 := by rw [hW1]; exact (Kept.refl _ _).alloc _
        have b7 : Wb3 W1 W0.heap.size (.int .i64 0) (.int .i64 0) (.slice none 0 0) := by rw [hW1]; exact Wb3.new W0 _ _ _ 30
        clear hW1
        have kw1 := k0.trans q1 (fun _ _ f => f)
        have x1 := X0.out.kept q1
        have r1 := R0.out.kept q1
        obtain ⟨_, ⟨x10, x11, x12⟩, _⟩ := id x1
        obtain ⟨s0, s1, s2⟩ := SC.out W1 kw1
        clear x00 x01 x02 X0 R0
        go_upto_region 19 with fail
        obtain ⟨W3, hW3⟩ : ∃ W3, W3 = W1.alloc (.cells #[.int .i64 o1, .int .i64 n1, .slice ka1 ks1.length kc1] 30) := ⟨_, rfl⟩
        rw [← hW3]
        have q2 : Kept (fun _ => False) W1 W3 := by rw [hW3]; exact (Kept.refl _ _).alloc _
        have b83 : Wb3 W3 W1.heap.size (.int .i64 o1) (.int .i64 n1) (.slice ka1 ks1.length kc1) := by rw [hW3]; exact Wb3.new W1 _ _ _ 30
        clear hW3
        have kw3 := kw1.trans q2 (fun _ _ f => f)
        have x3 := x1.kept q2
        have r3 := r1.kept q2
        have b73 := b7.kept q2
        have e7 : W0.heap.size < W1.heap.size := b7.1
        have hk0 := k0.size
        have hq1 := q1.size
        have hq2 := q2.size
        have HR7 : Hid (RV W3.heap.size W3 (.agg #[.int .i64 0, .int .i64 0, .slice none 0 0]) (.mk 0 0 [])) := RV.leaf _ _ _ _
        have KW3 : Hid (Kept (fun _ => False) w W3) := kw3
        have hr3 : w.heap.size + 1 < W3.heap.size := r3.1
        have e8 : W1.heap.size < W3.heap.size := b83.1
        clear s0 s1 s2 x10 x11 x12 x1 r1 b7 kw1 q1 q2 SC kw3
        obtain ⟨_, ⟨x20, x21, x22⟩, _⟩ := id x3
        obtain ⟨_, ⟨c70, c71, c72⟩, _⟩ := id b73
        go_upto_region 22 with (go_at_call 57; refine (IH.out (.mk 0 0 []) hl0 hw0 _ _ true HR7.out).mono ?_; rintro e w4 ⟨v', rfl, k4, hF4⟩; obtain ⟨oA, nA, aA, lA, cA, rfl⟩ := hF4.agg)
        obtain ⟨W4, hW4⟩ : ∃ W4, W4 = w4.alloc (.cells #[.int .i64 oA, .int .i64 nA, .slice aA lA cA] 30) := ⟨_, rfl⟩
        rw [← hW4]
        have q4 : Kept (fun _ => False) w4 W4 := by rw [hW4]; exact (Kept.refl _ _).alloc _
        have b94 : Wb3 W4 w4.heap.size (.int .i64 oA) (.int .i64 nA) (.slice aA lA cA) := by rw [hW4]; exact Wb3.new w4 _ _ _ 30
        clear hW4
        have k34 := k4.trans q4 (fun _ _ f => f)
        have kw4 := KW3.out.trans k34 (fun _ _ f => f)
        have r4 := r3.kept k34
        have b74 := b73.kept k34
        have b84 := b83.kept k34
        have RA : Hid (RVS (fun b => W3.heap.size ≤ b ∧ b < w4.heap.size) W4 (.agg #[.int .i64 oA, .int .i64 nA, .slice aA lA cA]) (plainT (.mk 0 0 []) true)) := hF4.kept q4 (fun b hb => hb.2)
        have h34 := k4.size
        have h44 : w4.heap.size < W4.heap.size := b94.1
        clear x20 x21 x22 c70 c71 c72 hF4 b73 b83 r3 x3 HR7
        obtain ⟨_, ⟨c70, c71, c72⟩, _⟩ := id b74
        obtain ⟨_, ⟨c80, c81, c82⟩, _⟩ := id b84
        obtain ⟨_, ⟨c90, c91, c92⟩, c93, c94, c95⟩ := id b94
        have HRc : Hid (RV W4.heap.size W4 (.agg #[.int .i64 1, .int .i64 0, .slice none 0 0]) (.mk 1 0 [])) := RV.leaf _ _ _ _
        go_upto_region 31 with (go_at_call 57; refine (IH.out (.mk 1 0 []) hl1 hw1 _ _ true HRc.out).mono ?_; rintro e w5 ⟨v', rfl, k5, hF5⟩; obtain ⟨oE, nE, aE, lE, cE, rfl⟩ := hF5.agg; obtain ⟨_, ⟨e90, e91, e92⟩, e93, e94, e95⟩ := b94.kept k5; have HF5 : Hid (RVS (fun b => W4.heap.size ≤ b ∧ b < w5.heap.size) w5 (.agg #[.int .i64 oE, .int .i64 nE, .slice aE lE cE]) (plainT (.mk 1 0 []) true)) := hF5; clear hF5)
        obtain ⟨W5, hW5⟩ : ∃ W5, W5 = (((w5.setCell ⟨w4.heap.size, 0, none⟩ (.int .i64 oE)).setCell ⟨w4.heap.size, 1, none⟩ (.int .i64 nE)).setCell ⟨w4.heap.size, 2, none⟩ (.slice aE lE cE)) := ⟨_, rfl⟩
        rw [← hW5]
        have hk4 := KW3.out.size
        have h45 := k5.size
        have hrw : w.heap.size + 1 < w4.heap.size := by omega
        have r5 : Wb3 W5 (w.heap.size + 1) (.int .i64 0) (.int .i64 0) (.slice none 0 0) := by rw [hW5]; exact (r4.kept k5).other3 (by omega) _ _ _
        have hb8 : W1.heap.size < w4.heap.size := by omega
        have b85 : Wb3 W5 W1.heap.size (.int .i64 o1) (.int .i64 n1) (.slice ka1 ks1.length kc1) := by rw [hW5]; exact (b84.kept k5).other3 (by omega) _ _ _
        have b95 : Wb3 W5 w4.heap.size (.int .i64 oE) (.int .i64 nE) (.slice aE lE cE) := by rw [hW5]; exact (b94.kept k5).store _ _ _
        have kw5 : Kept (fun _ => False) w W5 := by rw [hW5]; exact kept3 (kw4.trans k5 (fun _ _ f => f)) (by omega) _ _ _
        have e5 : W5.heap.size = w5.heap.size := by rw [hW5]; simp [World.setCell]
        have RA5 : Hid (RVS (fun b => W3.heap.size ≤ b ∧ b < W5.heap.size) W5 (.agg #[.int .i64 oE, .int .i64 nE, .slice aE lE cE]) (plainT (.mk 1 0 []) true)) := by
          rw [hW5]
          have hn : ¬ (W4.heap.size ≤ w4.heap.size ∧ w4.heap.size < w5.heap.size) := by omega
          exact (((HF5.out.set (p := ⟨w4.heap.size, 0, none⟩) hn _).set (p := ⟨w4.heap.size, 1, none⟩) hn _).set (p := ⟨w4.heap.size, 2, none⟩) hn _).keep (fun b hb => ⟨by have := hb.1; omega, by rw [← hW5, e5]; exact hb.2⟩) (fun _ _ => rfl)
        have HR8 : Hid (RV W5.heap.size W5 (.agg #[.int .i64 o1, .int .i64 n1, .slice ka1 ks1.length kc1]) (.mk o1 n1 ks1)) := HV1.out.kept kw5
        clear hW5 c70 c71 c72 c80 c81 c82 c90 c91 c92 c93 c94 c95 e90 e91 e92 e93 e94 e95 HF5
        obtain ⟨_, ⟨c80, c81, c82⟩, _⟩ := id b85
        go_upto_region 32 with (go_at_call 57; refine (IH.out (.mk o1 n1 ks1) hs1 ht1 _ _ true HR8.out).mono ?_; rintro e w6 ⟨v', rfl, k6, hF6⟩; obtain ⟨oB, nB, aB, lB, cB, rfl⟩ := hF6.agg)
        obtain ⟨W6, hW6⟩ : ∃ W6, W6 = w6.alloc (.cells #[.int .i64 oB, .int .i64 nB, .slice aB lB cB] 30) := ⟨_, rfl⟩
        rw [← hW6]
        have q6 : Kept (fun _ => False) w6 W6 := by rw [hW6]; exact (Kept.refl _ _).alloc _
        have b106 : Wb3 W6 w6.heap.size (.int .i64 oB) (.int .i64 nB) (.slice aB lB cB) := by rw [hW6]; exact Wb3.new w6 _ _ _ 30
        clear hW6
        have k56 := k6.trans q6 (fun _ _ f => f)
        have r6 := r5.kept k56
        have b96 := b95.kept k56
        have h56 := k56.size
        have h66 := k6.size
        have h67 : w6.heap.size < W6.heap.size := b106.1
        have RA6 : Hid (RVS (fun b => W3.heap.size ≤ b ∧ b < W6.heap.size) W6 (.agg #[.int .i64 oE, .int .i64 nE, .slice aE lE cE]) (plainT (.mk 1 0 []) true)) := (RA5.out.kept k56 (fun b hb => hb.2)).keep (fun b hb => ⟨hb.1, by omega⟩) (fun _ _ => rfl)
        have RB6 : Hid (RVS (fun b => W3.heap.size ≤ b ∧ b < W6.heap.size) W6 (.agg #[.int .i64 oB, .int .i64 nB, .slice aB lB cB]) (plainT (.mk o1 n1 ks1) true)) := (hF6.kept q6 (fun b hb => hb.2)).keep (fun b hb => ⟨by have := hb.1; omega, by have := hb.2; omega⟩) (fun _ _ => rfl)
        have KW6 : Hid (Kept (fun _ => False) w W6) := kw5.trans k56 (fun _ _ f => f)
        have hr6 := r6.1
        clear c80 c81 c82 hF6
        obtain ⟨_, ⟨c90, c91, c92⟩, _⟩ := id b96
        obtain ⟨_, ⟨d00, d01, d02⟩, _⟩ := id b106
        go_wp2_with (first
          | (go_at_call 93; refine (other93 _ _).mono ?_; rintro e w7 ⟨hw7, rfl⟩; rw [hw7]; clear hw7; rw [show otherO 9 = 8 from rfl])
          | (go_at_call 78; refine (two78 (fun b => W3.heap.size ≤ b ∧ b < W6.heap.size) _ 8 _ _ _ _ (fun b hb => hb.2) RA6.out RB6.out).mono ?_; rintro e w8 ⟨v', rfl, k8, hF8⟩; obtain ⟨oC, nC, aC, lC, cC, rfl⟩ := hF8.agg; obtain ⟨_, ⟨r80, r81, r82⟩, r83, r84, r85⟩ := r6.kept k8; have HF8 : Hid (RVS (fun b => W3.heap.size ≤ b ∧ b < w8.heap.size) w8 (.agg #[.int .i64 oC, .int .i64 nC, .slice aC lC cC]) (binT 8 (plainT (.mk 1 0 []) true) (plainT (.mk o1 n1 ks1) true))) := hF8.keep (fun b hb => hb.elim (fun g => ⟨g.1, Nat.lt_of_lt_of_le g.2 k8.size⟩) (fun g => ⟨by have := g.1; omega, g.2⟩)) (fun _ _ => rfl); clear hF8))
        have hf := fin57 (x := .int .i64 oC) (y := .int .i64 nC) (z := .slice aC lC cC) (r := w.heap.size + 1) (KW6.out.trans k8 (fun _ _ f => f)) (by omega) hr3 HF8.out
        refine bodyPost_ret (v := .agg #[.int .i64 oC, .int .i64 nC, .slice aC lC cC]) (by simp [results, Tryd.results57, go_sem, r80, r81, r82]) rfl ⟨_, rfl, hf.1, ?_⟩
        rw [HP.out]
        exact hf.2
end Go.Proofs.YtdbpdanocpfboaaDoor
