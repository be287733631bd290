import Derived.Test.YtdbpdanocpfboaaDoorZBun08
import Derived.Test.YtdbpdanocpfboaaDoorZBun06
/- What is plain, laid out: two. -/
namespace Go.Proofs.YtdbpdanocpfboaaDoor
open Go.RowKit

/-- the table of what an Op is behind a Not, in memory -/
def TabT (w : World) : Prop := ∀ j, j < 10 → w.cell? ⟨2, j, none⟩ = some (.int .i64 (([0, 0, 0, 0, 5, 4, 0, 7, 9, 8] : List Int).getD j 0))
theorem TabT.kept {w w' : World} (h : TabT w) {S : Nat → Prop} (hk : Kept S w w') (hs : ¬ S 2) : TabT w' := fun j hj => (hk.cell (p := ⟨2, j, none⟩) (lt_of_cell (h j hj)) hs).trans (h j hj)
theorem not_lset {base L bm : Nat} {w : World} {nv : Value} {ns : List Nd} (h : LIn w base L bm nv ns) {k r : Nat} (hk : w.heap.size ≤ k ∨ k < base) (hr : k ≠ r) : ¬ (LSet L bm nv k ∨ k = r) := by
  have l1 : L < w.heap.size := lt_of_cell h.c0
  have l2 : bm < w.heap.size := by obtain ⟨m, hm, _⟩ := h.map; exact hm.lt
  have g1 := h.bL
  have g2 := h.bM
  rintro ((e | e | e) | e)
  · omega
  · omega
  · have := ownsRow_lt h.own e; omega
  · exact hr e

set_option maxRecDepth 100000 in
set_option maxHeartbeats 4000000 in
theorem two126 (c : Lc) (w : World) (nv : Value) (ns : List Nd) (op : Int) (ia ja ib jb : Int) (ta ta' tb tb' : Tr) (hop : op = 4 ∨ op = 5 ∨ op = 8 ∨ op = 9) (hL : LIn w c.base c.L c.bm nv ns) (ho : Ord ns) (hb : c.base ≤ w.heap.size) (hlen : ns.length + 2 ≤ 1073741824) (hT : TabT w) (h3 : 3 ≤ c.base)
    (da : Den ns ia ta) (da' : Den ns ja ta') (db : Den ns ib tb) (db' : Den ns jb tb') :
    Calls Tryd.prog 126 #[.agg #[.pointer (some ⟨c.L, 0, none⟩)], .int .i64 op, .agg #[.int .i64 ia, .int .i64 ja], .agg #[.int .i64 ib, .int .i64 jb]] w fun e w' => Sides c 2 w nv ns (binT op ta tb) (binT (otherO op) ta' tb') e w' := by
  obtain ⟨base, L, bm, r'⟩ := c
  simp only at *
  obtain ⟨k, rfl, hk10, hw1, hw2, hTk0⟩ : ∃ k : Nat, op = (k : Int) ∧ k < 10 ∧ wellN (k : Int) 0 2 ∧ wellN (otherO (k : Int)) 0 2 ∧ w.cell? ⟨2, k, none⟩ = some (.int .i64 (otherO (k : Int))) := by
    rcases hop with rfl | rfl | rfl | rfl
    · exact ⟨4, rfl, by omega, ⟨by decide, by decide, rfl, by decide, by decide⟩, ⟨by decide, by decide, rfl, by decide, by decide⟩, hT 4 (by omega)⟩
    · exact ⟨5, rfl, by omega, ⟨by decide, by decide, rfl, by decide, by decide⟩, ⟨by decide, by decide, rfl, by decide, by decide⟩, hT 5 (by omega)⟩
    · exact ⟨8, rfl, by omega, ⟨by decide, by decide, rfl, by decide, by decide⟩, ⟨by decide, by decide, rfl, by decide, by decide⟩, hT 8 (by omega)⟩
    · exact ⟨9, rfl, by omega, ⟨by decide, by decide, rfl, by decide, by decide⟩, ⟨by decide, by decide, rfl, by decide, by decide⟩, hT 9 (by omega)⟩
  clear hop hT
  have HL : Hid (LIn w base L bm nv ns) := hL
  clear hL
  go_enter Tryd.func126, Tryd.ntmps126
  go_upto_region 1 with fail
  obtain ⟨w1, hw1'⟩ : ∃ w1, w1 = (((w.alloc (.cells #[.pointer (some ⟨L, 0, none⟩)] 145)).alloc (.cells #[.int .i64 ia, .int .i64 ja] 148)).alloc (.cells #[.int .i64 ib, .int .i64 jb] 148)).alloc (.cells #[.int .i64 0, .int .i64 0] 148) := ⟨_, rfl⟩
  have hk : Kept (fun _ => False) w w1 := by rw [hw1']; exact ((((Kept.refl _ _).alloc _).alloc _).alloc _).alloc _
  have hh : w1.heap = (((w.heap.push (.cells #[.pointer (some ⟨L, 0, none⟩)] 145)).push (.cells #[.int .i64 ia, .int .i64 ja] 148)).push (.cells #[.int .i64 ib, .int .i64 jb] 148)).push (.cells #[.int .i64 0, .int .i64 0] 148) := by rw [hw1']; rfl
  have g0 : w1.heap[w.heap.size]? = some (.cells #[.pointer (some ⟨L, 0, none⟩)] 145 (0, 0)) := by rw [hh]; exact (push4 _ _ _ _ _).1
  have g1 : w1.heap[w.heap.size + 1]? = some (.cells #[.int .i64 ia, .int .i64 ja] 148 (0, 0)) := by rw [hh]; exact (push4 _ _ _ _ _).2.1
  have g2 : w1.heap[w.heap.size + 1 + 1]? = some (.cells #[.int .i64 ib, .int .i64 jb] 148 (0, 0)) := by rw [hh]; exact (push4 _ _ _ _ _).2.2.1
  have g3 : w1.heap[w.heap.size + 1 + 1 + 1]? = some (.cells #[.int .i64 0, .int .i64 0] 148 (0, 0)) := by rw [hh]; exact (push4 _ _ _ _ _).2.2.2
  have h4 : w1.cell? ⟨w.heap.size, 0, none⟩ = some (.pointer (some ⟨L, 0, none⟩)) := by simp [World.cell?, g0]
  have h60 : w1.cell? ⟨w.heap.size + 1, 0, none⟩ = some (.int .i64 ia) := by simp [World.cell?, g1]
  have h61 : w1.cell? ⟨w.heap.size + 1, 1, none⟩ = some (.int .i64 ja) := by simp [World.cell?, g1]
  have h70 : w1.cell? ⟨w.heap.size + 1 + 1, 0, none⟩ = some (.int .i64 ib) := by simp [World.cell?, g2]
  have h71 : w1.cell? ⟨w.heap.size + 1 + 1, 1, none⟩ = some (.int .i64 jb) := by simp [World.cell?, g2]
  have hTk : w1.cell? ⟨2, k, none⟩ = some (.int .i64 (otherO (k : Int))) := (hk.cell (p := ⟨2, k, none⟩) (lt_of_cell hTk0) (fun f => f)).trans hTk0
  have hst : LSt ⟨base, L, bm, w.heap.size + 1 + 1 + 1⟩ w1 nv ns := LSt.mk' HL.out ho hb hk (by omega) (x := .int .i64 0) (y := .int .i64 0) (by simp [World.cell?, g3]) (by simp [World.cell?, g3]) (by simp [World.frozen?, g3]) (by simp [World.frozen?, g3])
  rw [← hw1']
  clear hw1' hTk0 hh g0 g1 g2 g3
  have n4 : ¬ (LSet L bm nv w.heap.size ∨ w.heap.size = w.heap.size + 1 + 1 + 1) := not_lset HL.out (.inl (by omega)) (by omega)
  have n6 : ¬ (LSet L bm nv (w.heap.size + 1) ∨ w.heap.size + 1 = w.heap.size + 1 + 1 + 1) := not_lset HL.out (.inl (by omega)) (by omega)
  have n7 : ¬ (LSet L bm nv (w.heap.size + 1 + 1) ∨ w.heap.size + 1 + 1 = w.heap.size + 1 + 1 + 1) := not_lset HL.out (.inl (by omega)) (by omega)
  have n2 : ¬ (LSet L bm nv 2 ∨ 2 = w.heap.size + 1 + 1 + 1) := not_lset HL.out (.inr (by omega)) (by omega)
  refine wp_region_L ⟨base, L, bm, w.heap.size + 1 + 1 + 1⟩ (binT (k : Int) ta tb) (binT (otherO (k : Int)) ta' tb') nv ns [9, 10, 11, 12, 13, 14, 15, 16, 17, 18, 19, 20, 21, 22, 23, 24, 25, 26, 27, 28, 29, 30]
    [.val (.pointer (some ⟨w.heap.size, 0, none⟩)), .val (.pointer (some ⟨L, 0, none⟩)), .val (.int .i64 (k : Int)), .val (.pointer (some ⟨w.heap.size + 1, 0, none⟩)), .val (.int .i64 ia), .val (.pointer (some ⟨w.heap.size + 1 + 1, 0, none⟩)), .val (.int .i64 ib), .val (ndV (k : Int) 0 ia ib), .den (binT (k : Int) ta tb), .val (.pointer (some ⟨w.heap.size, 0, none⟩)), .val (.pointer (some ⟨L, 0, none⟩)), .val (.int .i64 (k : Int)), .val (.pointer (some ⟨2, k, none⟩)), .val (.int .i64 (otherO (k : Int))), .val (.pointer (some ⟨w.heap.size + 1, 1, none⟩)), .val (.int .i64 ja), .val (.pointer (some ⟨w.heap.size + 1 + 1, 1, none⟩)), .val (.int .i64 jb), .val (ndV (otherO (k : Int)) 0 ja jb), .den (binT (otherO (k : Int)) ta' tb'), .dens (binT (k : Int) ta tb) (binT (otherO (k : Int)) ta' tb'), .fill]
    [0, 0, 0, 0, 0, 0, 0, 0, 1, 0, 0, 0, 0, 0, 0, 0, 0, 0, 0, 1, 0, 0] hst rfl (by decide) rfl (by kernel_rfl) rfl
    ⟨stepL_pure rfl rfl (fun a W hJ hq hd => by
        have e0 := hq 4 (by decide)
        revert e0; generalize a.eval = ρ; intro e0
        simp [execOp, go_sem, e0]),
     stepL_pure rfl rfl (fun a W hJ hq hd => by
        have e0 := hd ⟨0, .data⟩ (by simp) rfl 9 rfl (of_decide_eq_true rfl) _ rfl
        have hc0 := hJ.cell h4 n4
        revert e0; generalize a.eval = ρ; intro e0
        simp [execOp, go_sem, e0, hc0]),
     stepL_pure rfl rfl (fun a W hJ hq hd => by
        have e0 := hq 1 (by decide)
        revert e0; generalize a.eval = ρ; intro e0
        simp [execOp, go_sem, e0]),
     stepL_pure rfl rfl (fun a W hJ hq hd => by
        have e0 := hq 6 (by decide)
        revert e0; generalize a.eval = ρ; intro e0
        simp [execOp, go_sem, e0]),
     stepL_pure rfl rfl (fun a W hJ hq hd => by
        have e0 := hd ⟨3, .data⟩ (by simp) rfl 12 rfl (of_decide_eq_true rfl) _ rfl
        have hc0 := hJ.cell h60 n6
        revert e0; generalize a.eval = ρ; intro e0
        simp [execOp, go_sem, e0, hc0]),
     stepL_pure rfl rfl (fun a W hJ hq hd => by
        have e0 := hq 7 (by decide)
        revert e0; generalize a.eval = ρ; intro e0
        simp [execOp, go_sem, e0]),
     stepL_pure rfl rfl (fun a W hJ hq hd => by
        have e0 := hd ⟨5, .data⟩ (by simp) rfl 14 rfl (of_decide_eq_true rfl) _ rfl
        have hc0 := hJ.cell h70 n7
        revert e0; generalize a.eval = ρ; intro e0
        simp [execOp, go_sem, e0, hc0]),
     stepL_call (f := 83) (args := #[.int .i64 (k : Int), .int .i64 ia, .int .i64 ib]) rfl rfl (fun a W hq hd => by
        have e0 := hd ⟨2, .data⟩ (by simp) rfl 11 rfl (of_decide_eq_true rfl) _ rfl
        have e1 := hd ⟨4, .data⟩ (by simp) rfl 13 rfl (of_decide_eq_true rfl) _ rfl
        have e2 := hd ⟨6, .data⟩ (by simp) rfl 15 rfl (of_decide_eq_true rfl) _ rfl
        have hf : a.eval (.func 83) = .func (.func 83) #[] #[] := rfl
        revert e0 e1 e2 hf; generalize a.eval = ρ; intro e0 e1 e2 hf
        simp [execOp, go_sem, e0, e1, e2, hf]) (fun W => two83 _ _ _ W),
     stepL_add (op := (k : Int)) (n := 0) (ids := [ia, ib]) (kids := [ta, tb]) rfl rfl hlen hw1 ⟨ia, [ib], rfl, da, ib, [], rfl, db, rfl⟩ (fun a W hq hd => by
        have e1 := hd ⟨1, .data⟩ (by simp) rfl 10 rfl (of_decide_eq_true rfl) _ rfl
        have e2 := hd ⟨7, .data⟩ (by simp) rfl 16 rfl (of_decide_eq_true rfl) _ rfl
        have hf : a.eval (.func 84) = .func (.func 84) #[] #[] := rfl
        revert hf e1 e2; generalize a.eval = ρ; intro hf e1 e2
        simp [execOp, go_sem, hf, e1, e2, mkNd, Nd.v]),
     stepL_pure rfl rfl (fun a W hJ hq hd => by
        have e0 := hq 4 (by decide)
        revert e0; generalize a.eval = ρ; intro e0
        simp [execOp, go_sem, e0]),
     stepL_pure rfl rfl (fun a W hJ hq hd => by
        have e0 := hd ⟨9, .data⟩ (by simp) rfl 18 rfl (of_decide_eq_true rfl) _ rfl
        have hc0 := hJ.cell h4 n4
        revert e0; generalize a.eval = ρ; intro e0
        simp [execOp, go_sem, e0, hc0]),
     stepL_pure rfl rfl (fun a W hJ hq hd => by
        have e0 := hq 1 (by decide)
        revert e0; generalize a.eval = ρ; intro e0
        simp [execOp, go_sem, e0]),
     stepL_pure rfl rfl (fun a W hJ hq hd => by
        have e0 := hd ⟨11, .data⟩ (by simp) rfl 20 rfl (of_decide_eq_true rfl) _ rfl
        have e1 : a.eval (.global 2) = .pointer (some ⟨2, 0, none⟩) := rfl
        revert e0 e1; generalize a.eval = ρ; intro e0 e1
        simp [execOp, go_sem, e0, e1]
        exact fun h => absurd h (by omega)),
     stepL_pure rfl rfl (fun a W hJ hq hd => by
        have e0 := hd ⟨12, .data⟩ (by simp) rfl 21 rfl (of_decide_eq_true rfl) _ rfl
        have hc0 := hJ.cell hTk n2
        revert e0; generalize a.eval = ρ; intro e0
        simp [execOp, go_sem, e0, hc0]),
     stepL_pure rfl rfl (fun a W hJ hq hd => by
        have e0 := hq 6 (by decide)
        revert e0; generalize a.eval = ρ; intro e0
        simp [execOp, go_sem, e0]),
     stepL_pure rfl rfl (fun a W hJ hq hd => by
        have e0 := hd ⟨14, .data⟩ (by simp) rfl 23 rfl (of_decide_eq_true rfl) _ rfl
        have hc0 := hJ.cell h61 n6
        revert e0; generalize a.eval = ρ; intro e0
        simp [execOp, go_sem, e0, hc0]),
     stepL_pure rfl rfl (fun a W hJ hq hd => by
        have e0 := hq 7 (by decide)
        revert e0; generalize a.eval = ρ; intro e0
        simp [execOp, go_sem, e0]),
     stepL_pure rfl rfl (fun a W hJ hq hd => by
        have e0 := hd ⟨16, .data⟩ (by simp) rfl 25 rfl (of_decide_eq_true rfl) _ rfl
        have hc0 := hJ.cell h71 n7
        revert e0; generalize a.eval = ρ; intro e0
        simp [execOp, go_sem, e0, hc0]),
     stepL_call (f := 83) (args := #[.int .i64 (otherO (k : Int)), .int .i64 ja, .int .i64 jb]) rfl rfl (fun a W hq hd => by
        have e0 := hd ⟨13, .data⟩ (by simp) rfl 22 rfl (of_decide_eq_true rfl) _ rfl
        have e1 := hd ⟨15, .data⟩ (by simp) rfl 24 rfl (of_decide_eq_true rfl) _ rfl
        have e2 := hd ⟨17, .data⟩ (by simp) rfl 26 rfl (of_decide_eq_true rfl) _ rfl
        have hf : a.eval (.func 83) = .func (.func 83) #[] #[] := rfl
        revert e0 e1 e2 hf; generalize a.eval = ρ; intro e0 e1 e2 hf
        simp [execOp, go_sem, e0, e1, e2, hf]) (fun W => two83 _ _ _ W),
     stepL_add (op := (otherO (k : Int))) (n := 0) (ids := [ja, jb]) (kids := [ta', tb']) rfl rfl hlen hw2 ⟨ja, [jb], rfl, da', jb, [], rfl, db', rfl⟩ (fun a W hq hd => by
        have e1 := hd ⟨10, .data⟩ (by simp) rfl 19 rfl (of_decide_eq_true rfl) _ rfl
        have e2 := hd ⟨18, .data⟩ (by simp) rfl 27 rfl (of_decide_eq_true rfl) _ rfl
        have hf : a.eval (.func 84) = .func (.func 84) #[] #[] := rfl
        revert hf e1 e2; generalize a.eval = ρ; intro hf e1 e2
        simp [execOp, go_sem, hf, e1, e2, mkNd, Nd.v]),
     stepL_build (j := 8) (j' := 19) (d := 17) (d' := 28) rfl (by simp) (by simp) rfl rfl (of_decide_eq_true rfl) (of_decide_eq_true rfl) rfl rfl rfl rfl,
     stepL_store (j := 20) (d := 29) (s := 8) rfl (by decide) rfl (by simp) rfl (of_decide_eq_true rfl) rfl rfl rfl, trivial⟩ ?_
  intro f W nv' ns' hJ hR
  obtain ⟨i, j, c0, c1, d0, d1⟩ := hJ.fill (hR 21 (by decide))
  have hG := hJ.grown hk (by simp only; omega) r'
  clear hR hJ hst
  simp only [puts, Nat.zero_add, Nat.reduceAdd, Act.put, List.setIfInBounds_toArray, List.set_cons_succ, List.set_cons_zero, List.set_nil]
  simp only at c0 c1
  go_wp2
  exact bodyPost_ret (v := .agg #[.int .i64 i, .int .i64 j]) (by simp [results, Tryd.results126, go_sem, c0, c1]) rfl ⟨i, j, nv', ns', rfl, hG, d0, d1⟩
end Go.Proofs.YtdbpdanocpfboaaDoor
