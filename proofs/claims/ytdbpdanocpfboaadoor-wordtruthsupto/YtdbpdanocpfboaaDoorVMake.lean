/- Walks of package nodes: the closure that makes a Node. -/
import Derived.Test.YtdbpdanocpfboaaDoorVAdd
import Derived.Deep.RegionWith
import Derived.Deep.DeepCutAuto
namespace Go.Proofs.YtdbpdanocpfboaaDoor
open Go.RowKit

theorem kcell {W w1 : World} (hb : Kept (fun _ => False) W w1) : (∀ b o, b < W.heap.size → w1.cell? ⟨b, o, none⟩ = W.cell? ⟨b, o, none⟩) ∧ (∀ b o, b < W.heap.size → w1.frozen? ⟨b, o, none⟩ = W.frozen? ⟨b, o, none⟩) :=
  ⟨fun b o h => hb.cell (p := ⟨b, o, none⟩) h (fun f => f), fun b o h => hb.frozen (p := ⟨b, o, none⟩) h (fun f => f)⟩

theorem set4 {w : World} {b : Nat} {x0 x1 x2 x3 : Value} (h0 : w.cell? ⟨b, 0, none⟩ = some x0) (h1 : w.cell? ⟨b, 1, none⟩ = some x1) (h2 : w.cell? ⟨b, 2, none⟩ = some x2) (h3 : w.cell? ⟨b, 3, none⟩ = some x3) (y0 y1 y2 y3 : Value) :
    ((((w.setCell ⟨b, 0, none⟩ y0).setCell ⟨b, 1, none⟩ y1).setCell ⟨b, 2, none⟩ y2).setCell ⟨b, 3, none⟩ y3).cell? ⟨b, 0, none⟩ = some y0 ∧
    ((((w.setCell ⟨b, 0, none⟩ y0).setCell ⟨b, 1, none⟩ y1).setCell ⟨b, 2, none⟩ y2).setCell ⟨b, 3, none⟩ y3).cell? ⟨b, 1, none⟩ = some y1 ∧
    ((((w.setCell ⟨b, 0, none⟩ y0).setCell ⟨b, 1, none⟩ y1).setCell ⟨b, 2, none⟩ y2).setCell ⟨b, 3, none⟩ y3).cell? ⟨b, 2, none⟩ = some y2 ∧
    ((((w.setCell ⟨b, 0, none⟩ y0).setCell ⟨b, 1, none⟩ y1).setCell ⟨b, 2, none⟩ y2).setCell ⟨b, 3, none⟩ y3).cell? ⟨b, 3, none⟩ = some y3 := by
  refine ⟨?_, ?_, ?_, ?_⟩
  · rw [World.cell?_setCell_other _ _ _ _ (by simp), World.cell?_setCell_other _ _ _ _ (by simp), World.cell?_setCell_other _ _ _ _ (by simp), World.cell?_setCell_same' _ _ _ (by rw [h0]; rfl)]
  · rw [World.cell?_setCell_other _ _ _ _ (by simp), World.cell?_setCell_other _ _ _ _ (by simp), World.cell?_setCell_same' _ _ _ (by rw [World.cell?_setCell_other _ _ _ _ (by simp), h1]; rfl)]
  · rw [World.cell?_setCell_other _ _ _ _ (by simp), World.cell?_setCell_same' _ _ _ (by rw [World.cell?_setCell_other _ _ _ _ (by simp), World.cell?_setCell_other _ _ _ _ (by simp), h2]; rfl)]
  · rw [World.cell?_setCell_same' _ _ _ (by rw [World.cell?_setCell_other _ _ _ _ (by simp), World.cell?_setCell_other _ _ _ _ (by simp), World.cell?_setCell_other _ _ _ _ (by simp), h3]; rfl)]

/-- what a Node is made of -/
def mkNd (op n : Int) : List Int → Nd
  | [] => ⟨op, n, -1, -1⟩
  | [a] => ⟨op, 0, a, -1⟩
  | a :: b :: _ => ⟨op, 0, a, b⟩

/-- the Node's box -/
def Box6 (wr : World) (b6 : Nat) (x : Nd) : Prop :=
  wr.cell? ⟨b6, 0, none⟩ = some (.int .i64 x.op) ∧ wr.cell? ⟨b6, 1, none⟩ = some (.int .i64 x.n) ∧ wr.cell? ⟨b6, 2, none⟩ = some (.int .i64 x.l) ∧ wr.cell? ⟨b6, 3, none⟩ = some (.int .i64 x.r) ∧
    wr.frozen? ⟨b6, 0, none⟩ = false ∧ wr.frozen? ⟨b6, 1, none⟩ = false ∧ wr.frozen? ⟨b6, 2, none⟩ = false ∧ wr.frozen? ⟨b6, 3, none⟩ = false

theorem Box6.set {w : World} {b : Nat} {x : Nd} (h : Box6 w b x) (y : Nd) : Box6 ((((w.setCell ⟨b, 0, none⟩ (.int .i64 y.op)).setCell ⟨b, 1, none⟩ (.int .i64 y.n)).setCell ⟨b, 2, none⟩ (.int .i64 y.l)).setCell ⟨b, 3, none⟩ (.int .i64 y.r)) b y := by
  obtain ⟨h0, h1, h2, h3, f0, f1, f2, f3⟩ := h
  obtain ⟨a0, a1, a2, a3⟩ := set4 h0 h1 h2 h3 (.int .i64 y.op) (.int .i64 y.n) (.int .i64 y.l) (.int .i64 y.r)
  exact ⟨a0, a1, a2, a3, by simp only [World.frozen?_setCell]; exact f0, by simp only [World.frozen?_setCell]; exact f1, by simp only [World.frozen?_setCell]; exact f2, by simp only [World.frozen?_setCell]; exact f3⟩

theorem Box6.new (w : World) (x : Nd) : Box6 (w.alloc (.cells #[.int .i64 x.op, .int .i64 x.n, .int .i64 x.l, .int .i64 x.r] 102)) w.heap.size x := by
  refine ⟨?_, ?_, ?_, ?_, ?_, ?_, ?_, ?_⟩ <;> simp

theorem Box6.kept {w w' : World} {b : Nat} {x : Nd} (h : Box6 w b x) (hk : Kept (fun _ => False) w w') : Box6 w' b x := by
  have hl := lt_of_cell h.1
  obtain ⟨hc, hf⟩ := kcell hk
  obtain ⟨h0, h1, h2, h3, f0, f1, f2, f3⟩ := h
  exact ⟨by rw [hc _ _ hl]; exact h0, by rw [hc _ _ hl]; exact h1, by rw [hc _ _ hl]; exact h2, by rw [hc _ _ hl]; exact h3, by rw [hf _ _ hl]; exact f0, by rw [hf _ _ hl]; exact f1, by rw [hf _ _ hl]; exact f2, by rw [hf _ _ hl]; exact f3⟩

set_option maxHeartbeats 2000000 in
theorem add80 (w : World) (base L bm bx : Nat) (nv : Value) (ns : List Nd) (pb po : Nat) (op n : Int) (ids : List Int) (ka : Option Addr) (kl kc : Nat) (h : LIn w base L bm nv ns) (hbase : base ≤ w.heap.size) (hlen : ns.length < 1073741824)
    (hbx : w.cell? ⟨bx, 0, none⟩ = some (.pointer (some ⟨L, 0, none⟩))) (h0 : w.cell? ⟨pb, po, none⟩ = some (.int .i64 op)) (h1 : w.cell? ⟨pb, po + 1, none⟩ = some (.int .i64 n))
    (hids : (ids = [] ∧ kl = 0) ∨ (∃ a kb ko, ids = [a] ∧ kl = 1 ∧ ka = some ⟨kb, ko, none⟩ ∧ w.cell? ⟨kb, ko, none⟩ = some (.int .i64 a)) ∨
      (∃ a b kb ko, ids = [a, b] ∧ kl = 2 ∧ ka = some ⟨kb, ko, none⟩ ∧ w.cell? ⟨kb, ko, none⟩ = some (.int .i64 a) ∧ w.cell? ⟨kb, ko + 1, none⟩ = some (.int .i64 b))) :
    Calls Tryd.prog 80 #[.pointer (some ⟨pb, po, none⟩), .slice ka kl kc, .pointer (some ⟨bx, 0, none⟩)] w fun e w' => ∃ (i : Nat) (nv' : Value) (ns' : List Nd), e = .returned (.int .i64 (i : Int)) ∧ LIn w' base L bm nv' ns' ∧ ((ns' = ns ∧ ns[i]? = some (mkNd op n ids)) ∨ (ns' = ns ++ [mkNd op n ids] ∧ i = ns.length)) ∧
      (∀ k, some k = nv'.ownBlock → some k = nv.ownBlock ∨ w.heap.size ≤ k) ∧ Kept (LSet L bm nv) w w' := by
  have l0 := lt_of_cell hbx
  have l1 := lt_of_cell h0
  go_enter Tryd.func80, Tryd.ntmps80
  go_upto_region 1 with fail
  go_cut [6] (fun v6 wr => ∃ b6, v6 = .pointer (some ⟨b6, 0, none⟩) ∧ w.heap.size ≤ b6 ∧ Kept (fun _ => False) w wr ∧ Box6 wr b6 ⟨op, n, -1, -1⟩)
  case first =>
    clear hids
    go_region_with (go_at_call 81; refine (leaf81 _ _ _).mono ?_; rintro e w' ⟨rfl, hk⟩; obtain ⟨hc, hf⟩ := kcell hk; have hz := hk.size; simp at hz; simp only [ndV])
    all_goals
      go_wp2_with fail
      go_meet
      case rel =>
        refine ⟨_, rfl, ?_, ?_, ?_⟩
        · first | (simp; done) | (simp; omega) | omega
        · repeat (first | exact Kept.refl _ _ | exact Kept.trans (Kept.drew (Kept.alloc (Kept.refl _ _) _)) hk (fun _ _ f => f) | exact Kept.trans (Kept.drew (Kept.refl _ _)) hk (fun _ _ f => f) | apply Kept.alloc | (refine Kept.setCell ?_ (fun hh => by simp at hh) _) | apply Kept.drew)
        · first
            | with_reducible exact Box6.new _ ⟨op, n, -1, -1⟩
            | (have hb0 := Box6.kept (Box6.new w ⟨0, 0, 0, 0⟩) (Kept.trans (S := fun _ => False) (Kept.drew (Kept.refl _ _)) hk (fun _ _ f => f))
               with_reducible exact Box6.set hb0 ⟨op, n, -1, -1⟩)
  case rest =>
    obtain ⟨b6, rfl, hb6, hk6, hB⟩ := hcut
    have l6 := lt_of_cell hB.1
    have hbx' := (hk6.cell (p := ⟨bx, 0, none⟩) l0 (fun f => f)).trans hbx
    have h0' := (hk6.cell (p := ⟨pb, po, none⟩) l1 (fun f => f)).trans h0
    have hs6 := hk6.size
    obtain ⟨x0, x1, x2, x3, y0, y1, y2, y3⟩ := id hB
    simp only at x0 x1 x2 x3
    rcases hids with ⟨rfl, rfl⟩ | ⟨a, kb, ko, rfl, rfl, rfl, hka⟩ | ⟨a, b, kb, ko, rfl, rfl, rfl, hka, hkb⟩
    · go_wp2_with fail
      refine (add84 _ base L bm nv ns ⟨op, n, -1, -1⟩ (h.keep hk6 (fun _ _ f => f)) (Nat.le_trans hbase hs6) hlen).mono ?_
      rintro e w' ⟨i, nv', ns', rfl, q1, q2, q5, q6⟩
      go_wp2
      go_ret
      exact ⟨i, nv', ns', rfl, q1, q2, fun k hk => (q5 k hk).imp id (fun hh => Nat.le_trans hs6 hh), (hk6.mono (fun _ _ f => f.elim)).trans q6 (fun _ _ hh => hh)⟩
    · have hka' := (hk6.cell (p := ⟨kb, ko, none⟩) (lt_of_cell hka) (fun f => f)).trans hka
      go_wp2
      go_region_with (go_at_call 82; refine (one82 _ _ _).mono ?_; rintro e w' ⟨rfl, hk⟩; have hk7 : Kept (fun _ => False) wc w' := Kept.trans (Kept.drew (Kept.refl _ _)) hk (fun _ _ f => f); obtain ⟨z0, z1, z2, z3, v0, v1, v2, v3⟩ := hB.kept hk7; simp only at z0 z1 z2 z3; simp only [ndV])
      all_goals
        have hB8 := (hB.kept hk7).set ⟨op, 0, a, -1⟩
        have hk8 : Kept (fun _ => False) w ((((w'.setCell ⟨b6, 0, none⟩ (.int .i64 op)).setCell ⟨b6, 1, none⟩ (.int .i64 0)).setCell ⟨b6, 2, none⟩ (.int .i64 a)).setCell ⟨b6, 3, none⟩ (.int .i64 (-1))) := by
          repeat (refine Kept.setCell ?_ (fun hh => by simp at hh; omega) _)
          exact hk6.trans hk7 (fun _ _ f => f)
        have hbx8 := (hk8.cell (p := ⟨bx, 0, none⟩) l0 (fun f => f)).trans hbx
        simp only at hB8
        generalize ((((w'.setCell ⟨b6, 0, none⟩ (.int .i64 op)).setCell ⟨b6, 1, none⟩ (.int .i64 0)).setCell ⟨b6, 2, none⟩ (.int .i64 a)).setCell ⟨b6, 3, none⟩ (.int .i64 (-1))) = W8 at hB8 hk8 hbx8 ⊢
        obtain ⟨n0, n1, n2, n3, _⟩ := id hB8
        simp only at n0 n1 n2 n3
        clear z0 z1 z2 z3 v0 v1 v2 v3 x0 x1 x2 x3 y0 y1 y2 y3 hk7 hk
        go_wp2_with fail
        refine (add84 _ base L bm nv ns ⟨op, 0, a, -1⟩ (h.keep hk8 (fun _ _ f => f)) (Nat.le_trans hbase hk8.size) hlen).mono ?_
        rintro e w9 ⟨i, nv', ns', rfl, q1, q2, q5, q6⟩
        go_wp2
        go_ret
        exact ⟨i, nv', ns', rfl, q1, q2, fun k hk => (q5 k hk).imp id (fun hh => Nat.le_trans hk8.size hh), (hk8.mono (fun _ _ f => f.elim)).trans q6 (fun _ _ hh => hh)⟩
    · have hka' := (hk6.cell (p := ⟨kb, ko, none⟩) (lt_of_cell hka) (fun f => f)).trans hka
      have hkb' := (hk6.cell (p := ⟨kb, ko + 1, none⟩) (lt_of_cell hkb) (fun f => f)).trans hkb
      go_wp2
      go_region_with (go_at_call 83; refine (two83 _ _ _ _).mono ?_; rintro e w' ⟨rfl, hk⟩; have hk7 : Kept (fun _ => False) wc w' := Kept.trans (Kept.drew (Kept.refl _ _)) hk (fun _ _ f => f); obtain ⟨z0, z1, z2, z3, v0, v1, v2, v3⟩ := hB.kept hk7; simp only at z0 z1 z2 z3; simp only [ndV])
      all_goals
        have hB8 := (hB.kept hk7).set ⟨op, 0, a, b⟩
        have hk8 : Kept (fun _ => False) w ((((w'.setCell ⟨b6, 0, none⟩ (.int .i64 op)).setCell ⟨b6, 1, none⟩ (.int .i64 0)).setCell ⟨b6, 2, none⟩ (.int .i64 a)).setCell ⟨b6, 3, none⟩ (.int .i64 b)) := by
          repeat (refine Kept.setCell ?_ (fun hh => by simp at hh; omega) _)
          exact hk6.trans hk7 (fun _ _ f => f)
        have hbx8 := (hk8.cell (p := ⟨bx, 0, none⟩) l0 (fun f => f)).trans hbx
        simp only at hB8
        generalize ((((w'.setCell ⟨b6, 0, none⟩ (.int .i64 op)).setCell ⟨b6, 1, none⟩ (.int .i64 0)).setCell ⟨b6, 2, none⟩ (.int .i64 a)).setCell ⟨b6, 3, none⟩ (.int .i64 b)) = W8 at hB8 hk8 hbx8 ⊢
        obtain ⟨n0, n1, n2, n3, _⟩ := id hB8
        simp only at n0 n1 n2 n3
        clear z0 z1 z2 z3 v0 v1 v2 v3 x0 x1 x2 x3 y0 y1 y2 y3 hk7 hk
        go_wp2_with fail
        refine (add84 _ base L bm nv ns ⟨op, 0, a, b⟩ (h.keep hk8 (fun _ _ f => f)) (Nat.le_trans hbase hk8.size) hlen).mono ?_
        rintro e w9 ⟨i, nv', ns', rfl, q1, q2, q5, q6⟩
        go_wp2
        go_ret
        exact ⟨i, nv', ns', rfl, q1, q2, fun k hk => (q5 k hk).imp id (fun hh => Nat.le_trans hk8.size hh), (hk8.mono (fun _ _ f => f.elim)).trans q6 (fun _ _ hh => hh)⟩
end Go.Proofs.YtdbpdanocpfboaaDoor
