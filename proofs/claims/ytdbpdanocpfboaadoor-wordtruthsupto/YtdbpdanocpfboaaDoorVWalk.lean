/- The walk of package nodes. -/
import Derived.RangeFuncNested
import Derived.RangeFuncBound
import Derived.RangeFuncCalls
import Derived.RangeFuncLeaves
import Derived.Shelf.Abstract
import Derived.WalkKit
import Derived.OwnWalkIn
import Derived.TacticsInMore
import Derived.LoopNIn
import Derived.LoopIn
import Derived.Deep.LoopGhost
import Derived.Maps.OwnIn
import Derived.Maps.OwnOps
import Derived.Deep.DeepMust
import Derived.Deep.DeepCutAuto
import Derived.Deep.RegionWith
import Derived.Test.YtdbpdanocpfboaaDoorVMem
namespace Go.Proofs.YtdbpdanocpfboaaDoor
open Go.RowKit Go.Shelf
attribute [local go_sem] Oper.semAt_some

def markOf (D : Nat) : Deferred := { target := .collected D, args := #[] }

theorem leave_marks {F : Fence} {n : Nat} {fn : Func} {tmps : Array Value} {R : Ending → World → Prop} {v : Value} (hres : ∀ w' : World, (results fn tmps).run Tryd.prog w' = .ok v w') :
    ∀ (ds : List Nat) (w : World), ds.Nodup → (∀ D ∈ ds, w.heap[D]? = some (.deferred (some []))) → (∀ w', Kept (fun k => k ∈ ds) w w' → R (.returned v) w') → LeavesInM F n Tryd.prog fn tmps R (ds.map markOf) .returning w
  | [], w, _, _, hR => ⟨v, hres w, hR w (Kept.refl _ _)⟩
  | D :: ds, w, hnd, hd, hR => by
    refine ⟨by simp, .inl ⟨D, _, rfl, run_takeDeferred (hd D (by simp)), ?_⟩⟩
    have hk : Kept (fun k => k ∈ D :: ds) w (w.putObj D (.deferred none)) := (Kept.refl _ _).grown (grownBy_putObj' w D _) (fun k _ e => by cases e; simp)
    rw [List.nodup_cons] at hnd
    refine leave_marks hres ds _ hnd.2 (fun D' hD' => ?_) (fun w' hk' => hR w' (hk.trans hk' (fun k _ hk2 => List.mem_cons_of_mem _ hk2)))
    rw [World.putObj_heap_other (fun e => hnd.1 (by rw [← e]; exact hD'))]
    exact hd D' (by simp [hD'])

theorem addr_add (g j : Nat) : (⟨g, 0, none⟩ : Addr).add j = ⟨g, j, none⟩ := by
  unfold Addr.add
  by_cases h : j = 0
  · subst h; simp
  · simp [h]
theorem ownsRow_cap {w : World} {base : Nat} {e : TypeId} {size g n c : Nat} {xs : List Value} (h : w.ownsRow base e size (.slice (some ⟨g, 0, none⟩) n c) n xs) : n ≤ c ∧ c ≤ maxLen := by
  rcases h.2 with ⟨h2, _⟩ | ⟨g', cap, cur, hv, hg, hh, r1, r2, _⟩
  · cases h2
  · cases hv; exact ⟨r1, r2⟩

theorem three_cells (w : World) (a b c : Value) (t : TypeId) : ∀ j u, [a, b, c][j]? = some u → (w.alloc (.cells #[a, b, c] t)).cell? ((⟨w.heap.size, 0, none⟩ : Addr).add j) = some u := by
  intro j u h
  match j, h with
  | 0, h => simp at h; subst h; simp [Addr.add]
  | 1, h => simp at h; subst h; simp [Addr.add]
  | 2, h => simp at h; subst h; simp [Addr.add]

/-- the frame between two rounds -/
theorem frame85 (tm : Array Value) (rb ro bx mp bs : Nat) (uv : Value) (hs : tm.size = 104) (h0 : tm[0]? = some (.pointer (some ⟨rb, ro, none⟩))) (h1 : tm[1]? = some (.func (.func 86) #[] #[])) (h2 : tm[2]? = some (.func (.func 80) #[] #[.pointer (some ⟨bx, 0, none⟩)]))
    (h3 : tm[3]? = some undef) (h4 : tm[4]? = some undef) (h5 : tm[5]? = some undef) (h6 : tm[6]? = some (.bool false)) (h7 : tm[7]? = some (.map (some mp))) (h8 : tm[8]? = some uv) (h9 : tm[9]? = some (.pointer (some ⟨bs, 0, none⟩))) :
    ∃ u : Nat → Value, tm = #[.pointer (some ⟨rb, ro, none⟩), .func (.func 86) #[] #[], .func (.func 80) #[] #[.pointer (some ⟨bx, 0, none⟩)], undef, undef, undef, .bool false, .map (some mp), uv, .pointer (some ⟨bs, 0, none⟩), u 10, u 11, u 12, u 13, u 14, u 15, u 16, u 17, u 18, u 19, u 20, u 21, u 22, u 23, u 24, u 25, u 26, u 27, u 28, u 29, u 30, u 31, u 32, u 33, u 34, u 35, u 36, u 37, u 38, u 39, u 40, u 41, u 42, u 43, u 44, u 45, u 46, u 47, u 48, u 49, u 50, u 51, u 52, u 53, u 54, u 55, u 56, u 57, u 58, u 59, u 60, u 61, u 62, u 63, u 64, u 65, u 66, u 67, u 68, u 69, u 70, u 71, u 72, u 73, u 74, u 75, u 76, u 77, u 78, u 79, u 80, u 81, u 82, u 83, u 84, u 85, u 86, u 87, u 88, u 89, u 90, u 91, u 92, u 93, u 94, u 95, u 96, u 97, u 98, u 99, u 100, u 101, u 102, u 103] := by
  refine ⟨fun i => tm[i]!, ?_⟩
  have e : tm.toList = (List.range tm.size).map (fun i => tm[i]!) := by
    apply List.ext_getElem
    · simp
    · intro i a b
      have : i < tm.size := by simpa using a
      simp [this]
  rw [hs] at e
  have r : List.range 104 = [0, 1, 2, 3, 4, 5, 6, 7, 8, 9, 10, 11, 12, 13, 14, 15, 16, 17, 18, 19, 20, 21, 22, 23, 24, 25, 26, 27, 28, 29, 30, 31, 32, 33, 34, 35, 36, 37, 38, 39, 40, 41, 42, 43, 44, 45, 46, 47, 48, 49, 50, 51, 52, 53, 54, 55, 56, 57, 58, 59, 60, 61, 62, 63, 64, 65, 66, 67, 68, 69, 70, 71, 72, 73, 74, 75, 76, 77, 78, 79, 80, 81, 82, 83, 84, 85, 86, 87, 88, 89, 90, 91, 92, 93, 94, 95, 96, 97, 98, 99, 100, 101, 102, 103] := by decide
  rw [r] at e
  simp only [List.map] at e
  have g0 : tm[0]! = .pointer (some ⟨rb, ro, none⟩) := by simp [getElem!_def, h0]
  have g1 : tm[1]! = .func (.func 86) #[] #[] := by simp [getElem!_def, h1]
  have g2 : tm[2]! = .func (.func 80) #[] #[.pointer (some ⟨bx, 0, none⟩)] := by simp [getElem!_def, h2]
  have g3 : tm[3]! = undef := by simp [getElem!_def, h3]
  have g4 : tm[4]! = undef := by simp [getElem!_def, h4]
  have g5 : tm[5]! = undef := by simp [getElem!_def, h5]
  have g6 : tm[6]! = .bool false := by simp [getElem!_def, h6]
  have g7 : tm[7]! = .map (some mp) := by simp [getElem!_def, h7]
  have g8 : tm[8]! = uv := by simp [getElem!_def, h8]
  have g9 : tm[9]! = .pointer (some ⟨bs, 0, none⟩) := by simp [getElem!_def, h9]
  rw [g0, g1, g2, g3, g4, g5, g6, g7, g8, g9] at e
  exact Array.ext' e

theorem act85 (tm : Array Value) (d : List Deferred) (rb ro bx mp bs : Nat) (uv : Value) (hs : tm.size = 104) (h0 : tm[0]? = some (.pointer (some ⟨rb, ro, none⟩))) (h1 : tm[1]? = some (.func (.func 86) #[] #[])) (h2 : tm[2]? = some (.func (.func 80) #[] #[.pointer (some ⟨bx, 0, none⟩)]))
    (h3 : tm[3]? = some undef) (h4 : tm[4]? = some undef) (h5 : tm[5]? = some undef) (h6 : tm[6]? = some (.bool false)) (h7 : tm[7]? = some (.map (some mp))) (h8 : tm[8]? = some uv) (h9 : tm[9]? = some (.pointer (some ⟨bs, 0, none⟩))) :
    ∃ u : Nat → Value, ({ tmps := tm, defers := d } : Act) = { tmps := #[.pointer (some ⟨rb, ro, none⟩), .func (.func 86) #[] #[], .func (.func 80) #[] #[.pointer (some ⟨bx, 0, none⟩)], undef, undef, undef, .bool false, .map (some mp), uv, .pointer (some ⟨bs, 0, none⟩), u 10, u 11, u 12, u 13, u 14, u 15, u 16, u 17, u 18, u 19, u 20, u 21, u 22, u 23, u 24, u 25, u 26, u 27, u 28, u 29, u 30, u 31, u 32, u 33, u 34, u 35, u 36, u 37, u 38, u 39, u 40, u 41, u 42, u 43, u 44, u 45, u 46, u 47, u 48, u 49, u 50, u 51, u 52, u 53, u 54, u 55, u 56, u 57, u 58, u 59, u 60, u 61, u 62, u 63, u 64, u 65, u 66, u 67, u 68, u 69, u 70, u 71, u 72, u 73, u 74, u 75, u 76, u 77, u 78, u 79, u 80, u 81, u 82, u 83, u 84, u 85, u 86, u 87, u 88, u 89, u 90, u 91, u 92, u 93, u 94, u 95, u 96, u 97, u 98, u 99, u 100, u 101, u 102, u 103], defers := d } := by
  obtain ⟨u, e⟩ := frame85 tm rb ro bx mp bs uv hs h0 h1 h2 h3 h4 h5 h6 h7 h8 h9
  exact ⟨u, by rw [e]⟩

theorem act96 (tm : Array Value) (d : List Deferred) (rb ro bx mp bs Bs : Nat) (uv : Value) (hs : tm.size = 104) (h0 : tm[0]? = some (.pointer (some ⟨rb, ro, none⟩))) (h1 : tm[1]? = some (.func (.func 86) #[] #[])) (h2 : tm[2]? = some (.func (.func 80) #[] #[.pointer (some ⟨bx, 0, none⟩)]))
    (h3 : tm[3]? = some undef) (h4 : tm[4]? = some undef) (h5 : tm[5]? = some undef) (h6 : tm[6]? = some (.bool false)) (h7 : tm[7]? = some (.map (some mp))) (h8 : tm[8]? = some uv) (h9 : tm[9]? = some (.pointer (some ⟨bs, 0, none⟩))) (h96 : tm[96]? = some (.func (.func 132) #[] #[.pointer (some ⟨Bs, 0, none⟩)])) :
    ∃ u : Nat → Value, ({ tmps := tm, defers := d } : Act) = { tmps := #[.pointer (some ⟨rb, ro, none⟩), .func (.func 86) #[] #[], .func (.func 80) #[] #[.pointer (some ⟨bx, 0, none⟩)], undef, undef, undef, .bool false, .map (some mp), uv, .pointer (some ⟨bs, 0, none⟩), u 10, u 11, u 12, u 13, u 14, u 15, u 16, u 17, u 18, u 19, u 20, u 21, u 22, u 23, u 24, u 25, u 26, u 27, u 28, u 29, u 30, u 31, u 32, u 33, u 34, u 35, u 36, u 37, u 38, u 39, u 40, u 41, u 42, u 43, u 44, u 45, u 46, u 47, u 48, u 49, u 50, u 51, u 52, u 53, u 54, u 55, u 56, u 57, u 58, u 59, u 60, u 61, u 62, u 63, u 64, u 65, u 66, u 67, u 68, u 69, u 70, u 71, u 72, u 73, u 74, u 75, u 76, u 77, u 78, u 79, u 80, u 81, u 82, u 83, u 84, u 85, u 86, u 87, u 88, u 89, u 90, u 91, u 92, u 93, u 94, u 95, .func (.func 132) #[] #[.pointer (some ⟨Bs, 0, none⟩)], u 97, u 98, u 99, u 100, u 101, u 102, u 103], defers := d } := by
  obtain ⟨u, e⟩ := frame85 tm rb ro bx mp bs uv hs h0 h1 h2 h3 h4 h5 h6 h7 h8 h9
  have e96 : u 96 = .func (.func 132) #[] #[.pointer (some ⟨Bs, 0, none⟩)] := by
    rw [e] at h96
    exact Option.some.inj h96
  exact ⟨u, by rw [e, e96]⟩
theorem wp_act {σ : Type} {P : Program} {c : Code} {Q : Exit → Act → World → Prop} {a : Act} {w : World} {f : σ → Act} (h : ∃ u, a = f u) (k : ∀ u, c.wp P Q (f u) w) : c.wp P Q a w := by
  obtain ⟨u, rfl⟩ := h
  exact k u

def dummyT (x : Nat × Nat × Nat) : Task := ⟨false, x.2.1, x.2.2, .mk 0 0 []⟩

theorem MS.swap {w0 : World} {Bf L bm : Nat} {nv0 : Value} {bx mp bs : Nat} {st st' : List Task} {nums : List Int} {ns : List Nd} {m : Value → Option Value} {nv sv uv : Value} {ds : List Nat} {w : World}
    (h : MS w0 Bf L bm nv0 bx mp bs st nums ns m nv sv uv ds w) (e1 : st.length = st'.length) (e2 : flatS st.reverse = flatS st'.reverse) : MS w0 Bf L bm nv0 bx mp bs st' nums ns m nv sv uv ds w :=
  { h with srow := by rw [← e1, ← e2]; exact h.srow }

theorem MS.mark {w0 : World} {Bf L bm : Nat} {nv0 : Value} {bx mp bs : Nat} {st : List Task} {nums : List Int} {ns : List Nd} {m : Value → Option Value} {nv sv uv : Value} {ds : List Nat} {w : World}
    (h : MS w0 Bf L bm nv0 bx mp bs st nums ns m nv sv uv ds w) {D : Nat} (hD : w0.heap.size ≤ D) (hK : w.heap[D]? = some (.deferred (some []))) : MS w0 Bf L bm nv0 bx mp bs st nums ns m nv sv uv (D :: ds) w :=
  have hmk : ∀ D' ∈ D :: ds, w0.heap.size ≤ D' ∧ w.heap[D']? = some (.deferred (some [])) := by
    intro D' hD'
    rcases List.mem_cons.1 hD' with rfl | hD'
    · exact ⟨hD, hK⟩
    · exact h.mks D' hD'
  { h with mks := hmk }

theorem kidTasks_length (l : List Tr) : ∀ (b o : Nat), (kidTasks b o l).length = l.length := by
  induction l with
  | nil => intros; rfl
  | cons t r ih => intro b o; simp [kidTasks, ih]

theorem kidTasks_cells (l : List Tr) : ∀ (b o : Nat), (kidTasks b o l).map Task.cells = (List.range l.length).map (fun j => [ptrV b (o + j * 3), Value.bool false, Value.int .i64 0]) := by
  induction l with
  | nil => intros; rfl
  | cons t r ih =>
    intro b o
    rw [List.length_cons, List.range_succ_eq_map]
    simp only [kidTasks, List.map_cons, ih, List.map_map]
    rw [List.cons.injEq]
    refine ⟨?_, ?_⟩
    · simp [Task.cells, Task.kl]
    · apply List.map_congr_left
      intro j _
      simp only [Function.comp]
      rw [show o + 3 + j * 3 = o + (j + 1) * 3 by omega]

theorem wts_enter (b o kb ko : Nat) (t : Tr) (s : List Task) : wts (kidTasks kb ko t.kids ++ ⟨true, b, o, t⟩ :: s) < wts (⟨false, b, o, t⟩ :: s) := by
  rw [wts_append, kidTasks_wts]
  cases t with
  | mk op n kids => simp [wts, Task.wt, Tr.size, Tr.kids]; omega

theorem row_cells {w : World} {base : Nat} {e : TypeId} {size : Nat} {v : Value} {n : Nat} {xs : List Value} (h : w.ownsRow base e size v n xs) (j : Nat) (o : Obj) (hv : v.ownBlock = some j) (ho : w.heap[j]? = some o) : o.isCells = true := by
  cases hc : o.isCells with
  | true => rfl
  | false => exact absurd hv (row_ne h ho hc)

theorem flatS_map (l l' : List Task) (h : l.map Task.cells = l'.map Task.cells) : flatS l = flatS l' := by
  simp only [flatS, List.flatMap_def, h]

theorem down_cells (kb ko kl : Nat) : ((down kb ko kl 0).reverse.map dummyT).map Task.cells = (List.range kl).map (fun j => [ptrV kb (ko + j * 3), Value.bool false, Value.int .i64 0]) := by
  apply List.ext_getElem?
  intro i
  by_cases hi : i < kl
  · have e1 : kl - 1 - (kl - 1 - i) = i := by omega
    simp [down, hi, dummyT, Task.cells, Task.kl, e1]
  · rw [List.getElem?_eq_none (by simp [down]; omega), List.getElem?_eq_none (by simp; omega)]

theorem start_gs {F : Nat → Nat → Tr → Prop} {root : Tr} {rb ro : Nat} (h : F rb ro root) : GS F root [⟨false, rb, ro, root⟩] [] [] (fun _ => none) where
  ts := ⟨[], ⟨h, rfl⟩, rfl, trivial⟩
  sz := ⟨by simp, trivial⟩
  bot := ⟨fun _ => rfl, fun e => absurd rfl e, trivial⟩
  found := by simp
  wr := fun hr k hk => by simp at hk; subst hk; exact hr
  nodes := by simp
  last := by simp
  ord := by intro j x hx; simp at hx
  b1 := by simp [wts, Task.wt]
  b2 := by simp [wts, Task.wt]

theorem start_ms {w0 : World} {Bf L bm : Nat} {nv0 : Value} {bx rb ro : Nat} {root : Tr} (hL : LIn w0 Bf L bm nv0 []) (hbx : w0.cell? ⟨bx, 0, none⟩ = some (.pointer (some ⟨L, 0, none⟩))) (xL : bx ≠ L) (xM : bx ≠ bm) (xN : nv0.ownBlock ≠ some bx) (hBf : Bf ≤ w0.heap.size) :
    MS w0 Bf L bm nv0 bx w0.heap.size (w0.heap.size + 1 + 1) [⟨false, rb, ro, root⟩] [] [] (fun _ => none) nv0 (.slice (some ⟨w0.heap.size + 1, 0, none⟩) 1 1) (.slice none 0 0) []
      (((w0.alloc (.map #[] 0)).alloc (.cells #[.pointer (some ⟨rb, ro, none⟩), .bool false, .int .i64 0] 175)).alloc (.cells #[.slice (some ⟨w0.heap.size + 1, 0, none⟩) 1 1] 176)) := by
  have hk : Kept (fun _ => False) w0 (((w0.alloc (.map #[] 0)).alloc (.cells #[.pointer (some ⟨rb, ro, none⟩), .bool false, .int .i64 0] 175)).alloc (.cells #[.slice (some ⟨w0.heap.size + 1, 0, none⟩) 1 1] 176)) := (((Kept.refl _ _).alloc _).alloc _).alloc _
  have hb1 : (((w0.alloc (.map #[] 0)).alloc (.cells #[.pointer (some ⟨rb, ro, none⟩), .bool false, .int .i64 0] 175)).alloc (.cells #[.slice (some ⟨w0.heap.size + 1, 0, none⟩) 1 1] 176)).heap[w0.heap.size + 1]? = some (.cells #[.pointer (some ⟨rb, ro, none⟩), .bool false, .int .i64 0] 175 (0, 0)) := by
    rw [Below.heap_alloc _ _ _ (by simp)]
    have := (MapKept.heap_alloc (w0.alloc (.map #[] 0)) (.cells #[.pointer (some ⟨rb, ro, none⟩), .bool false, .int .i64 0] 175)).1
    simpa using this
  have hgm : Gm (isPB Bf) (((w0.alloc (.map #[] 0)).alloc (.cells #[.pointer (some ⟨rb, ro, none⟩), .bool false, .int .i64 0] 175)).alloc (.cells #[.slice (some ⟨w0.heap.size + 1, 0, none⟩) 1 1] 176)) w0.heap.size (fun _ => none) := by
    have h1 : Gm (isPB Bf) (w0.alloc (.map #[] 0)) w0.heap.size (fun _ => none) := Gm.made w0
    have k2 : Kept (fun _ => False) (w0.alloc (.map #[] 0)) (((w0.alloc (.map #[] 0)).alloc (.cells #[.pointer (some ⟨rb, ro, none⟩), .bool false, .int .i64 0] 175)).alloc (.cells #[.slice (some ⟨w0.heap.size + 1, 0, none⟩) 1 1] 176)) := ((Kept.refl _ _).alloc _).alloc _
    exact h1.of_block (k2.block _ (by simp) (fun f => f)) (keyStay k2 (fun _ _ f => f))
  have lL : L < w0.heap.size := lt_of_cell hL.c0
  have lM : bm < w0.heap.size := by obtain ⟨m, hm, _⟩ := hL.map; exact hm.lt
  have lX : bx < w0.heap.size := lt_of_cell hbx
  have nb : ∀ k, some k = nv0.ownBlock → k < w0.heap.size := fun k hk => (ownsRow_lt hL.own hk).1
  exact {
    li := hL.keep hk (fun _ _ f => f)
    cbx := (hk.cell (p := ⟨bx, 0, none⟩) lX (fun f => f)).trans hbx
    cbs := by rw [World.cell?_alloc_at (hn := by simp)]; rfl
    fbs := by
      have hsz : ((w0.alloc (.map #[] 0)).alloc (.cells #[.pointer (some ⟨rb, ro, none⟩), .bool false, .int .i64 0] 175)).heap.size = w0.heap.size + 1 + 1 := by simp
      have hh := (MapKept.heap_alloc ((w0.alloc (.map #[] 0)).alloc (.cells #[.pointer (some ⟨rb, ro, none⟩), .bool false, .int .i64 0] 175)) (.cells #[.slice (some ⟨w0.heap.size + 1, 0, none⟩) 1 1] 176)).1
      rw [hsz] at hh
      unfold World.frozen?
      dsimp only
      rw [hh]
      rfl
    srow := ⟨rfl, .inr ⟨w0.heap.size + 1, 1, _, rfl, by omega, hb1, by simp, by decide, rfl, rfl⟩⟩
    urow := World.ownsRow_nil _ _ _ _
    gm := hgm
    kp := hk.mono (fun _ _ f => f.elim)
    nvs := fun k hk => .inl hk
    hBf := hBf
    hL := lL
    hM := lM
    hbx := lX
    hmp := Nat.le_refl _
    hbs := by omega
    xL := xL
    xM := xM
    xN := xN
    d1 := fun e => by have := nb _ e.symm; omega
    d2 := fun e => by have e' : w0.heap.size + 1 = w0.heap.size + 1 + 1 := Option.some.inj e; omega
    d3 := fun e => by cases e
    d4 := fun k e e' => by have e2 : k = w0.heap.size + 1 := Option.some.inj e; have := nb k e'; omega
    d5 := fun k e => by cases e
    d6 := fun k _ e => by cases e
    mks := by simp }

/-- between two rounds of the walk -/
def Inv85 (w0 : World) (Bf L bm : Nat) (nv0 : Value) (bx mp bs rb ro : Nat) (root : Tr) (n : Nat) (a : Act) (w : World) : Prop :=
  ∃ st nums ns m nv sv uv ds, n = wts st ∧ GS (FormAt Bf w0) root st nums ns m ∧ MS w0 Bf L bm nv0 bx mp bs st nums ns m nv sv uv ds w ∧ ds.Nodup ∧
    ∃ u : Nat → Value, a = { tmps := #[.pointer (some ⟨rb, ro, none⟩), .func (.func 86) #[] #[], .func (.func 80) #[] #[.pointer (some ⟨bx, 0, none⟩)], undef, undef, undef, .bool false, .map (some mp), uv, .pointer (some ⟨bs, 0, none⟩), u 10, u 11, u 12, u 13, u 14, u 15, u 16, u 17, u 18, u 19, u 20, u 21, u 22, u 23, u 24, u 25, u 26, u 27, u 28, u 29, u 30, u 31, u 32, u 33, u 34, u 35, u 36, u 37, u 38, u 39, u 40, u 41, u 42, u 43, u 44, u 45, u 46, u 47, u 48, u 49, u 50, u 51, u 52, u 53, u 54, u 55, u 56, u 57, u 58, u 59, u 60, u 61, u 62, u 63, u 64, u 65, u 66, u 67, u 68, u 69, u 70, u 71, u 72, u 73, u 74, u 75, u 76, u 77, u 78, u 79, u 80, u 81, u 82, u 83, u 84, u 85, u 86, u 87, u 88, u 89, u 90, u 91, u 92, u 93, u 94, u 95, u 96, u 97, u 98, u 99, u 100, u 101, u 102, u 103], defers := ds.map markOf }

theorem info178 : (Tryd.prog.info? 175).map (fun i => (i.zero, i.size, i.bytes)) = some (some (.agg #[.pointer none, .bool false, .int .i64 0]), 3, 24) := by kernel_rfl
theorem info3 : (Tryd.prog.info? 3).map (fun i => (i.zero, i.size, i.bytes)) = some (some (.int .i64 0), 1, 8) := by kernel_rfl

/-- how the body may be left -/
def Q85 (R : Ending → World → Prop) : Exit → Act → World → Prop
  | .ret, a, w => LeavesInM Fence.wide 9 Tryd.prog Tryd.f85 a.tmps R a.defers .returning w
  | _, _, _ => False

/-- what the walk answers -/
def Post85 (w0 : World) (Bf L bm : Nat) (nv0 : Value) (root : Tr) (e : Ending) (w' : World) : Prop :=
  Kept (LSet L bm nv0) w0 w' ∧ ((¬ root.well ∧ e = .returned (.bool false)) ∨ (root.well ∧ e = .returned (.bool true) ∧ ∃ nv ns, LIn w' Bf L bm nv ns ∧ (∀ k, some k = nv.ownBlock → some k = nv0.ownBlock ∨ w0.heap.size ≤ k) ∧ Den ns ((ns.length : Int) - 1) root ∧ Ord ns ∧ ns.length ≤ 2 * root.size))

set_option maxRecDepth 100000 in
set_option maxHeartbeats 4000000 in
theorem walk85 (w0 : World) (Bf L bm : Nat) (nv0 : Value) (bx rb ro : Nat) (root : Tr) (ns0 : List Nd)
    (hL : LIn w0 Bf L bm nv0 ns0) (h0 : ns0 = []) (hbx : w0.cell? ⟨bx, 0, none⟩ = some (.pointer (some ⟨L, 0, none⟩))) (xL : bx ≠ L) (xM : bx ≠ bm) (xN : nv0.ownBlock ≠ some bx) (hBf : Bf ≤ w0.heap.size) (hT : TabK w0) (hB2 : 2 ≤ Bf)
    (hF : FormAt Bf w0 rb ro root) (hsz : root.size ≤ 268435456) :
    Calls Tryd.prog 85 #[.pointer (some ⟨rb, ro, none⟩), .func (.func 86) #[] #[], .func (.func 80) #[] #[.pointer (some ⟨bx, 0, none⟩)]] w0 fun e w' => Post85 w0 Bf L bm nv0 root e w' := by
  have hmm := @run_makeMap Tryd.prog
  refine (callsIn_wide (n := 9)).1 (callsIn_of_wp_marks Tryd.func85 rfl trivial ?_ rfl)
  simp only [Tryd.ntmps85, List.size_toArray, List.length_cons, List.length_nil, Nat.reduceAdd, Nat.reduceSub, Array.replicate_succ, Array.replicate_zero, List.push_toArray, List.append_toArray, List.nil_append, List.cons_append]
  refine wpIn_wide.2 (wp_mono (Q := Q85 (fun e w' => Post85 w0 Bf L bm nv0 root e w')) ?_ (fun e a w h => by cases e <;> first | exact h | exact h.elim))
  go_wp2_with fail
  refine wp_loop_ghost (Inv85 w0 Bf L bm nv0 bx w0.heap.size (w0.heap.size + 1 + 1) rb ro root) (2 * root.size) ?start ?round
  case start =>
    subst h0
    exact ⟨[⟨false, rb, ro, root⟩], [], [], fun _ => none, nv0, _, _, [], by simp [wts, Task.wt], start_gs hF, start_ms hL hbx xL xM xN hBf, List.nodup_nil, act85 _ _ rb ro bx _ _ _ rfl rfl rfl rfl rfl rfl rfl rfl rfl rfl rfl⟩
  case round =>
    have hLS : ∀ k, LSet L bm nv0 k → Bf ≤ k := by
      rintro k (e | e | e)
      · have := hL.bL; omega
      · have := hL.bM; omega
      · exact (ownsRow_lt hL.own e).2
    clear hL hmm
    rintro n a w ⟨st, nums, ns, m, nv, sv, uv, ds, rfl, hg, hm, hnd, u, rfl⟩
    generalize w0.heap.size + 1 + 1 = bs at *
    cases st with
    | nil =>
      have hsv : ∃ sa sc, sv = .slice sa 0 sc := by
        rcases hm.srow.2 with ⟨rfl, _⟩ | ⟨g, cap, cur, rfl, _⟩
        · exact ⟨_, _, rfl⟩
        · exact ⟨_, _, rfl⟩
      obtain ⟨sa, sc, rfl⟩ := hsv
      have c1 := hm.cbs
      go_wp2
      refine leave_marks (v := .bool true) (fun w' => by simp [results, Tryd.results85, go_sem]) ds w hnd (fun D hD => (hm.mks D hD).2) (fun w' hk' => ?_)
      obtain ⟨f1, f2, f3, f4⟩ := hg.fin
      refine ⟨hm.kp.trans hk' (fun D hD hD2 => by have := (hm.mks D hD2).1; omega), .inr ⟨f1, rfl, nv, ns, hm.li.keep hk' (fun D hD hD2 => ?_), hm.nvs, f3, f4, by have := hg.b2; omega⟩⟩
      rcases hD with e | e | e
      · have := (hm.mks D hD2).1; have := hm.hL; omega
      · have := (hm.mks D hD2).1; have := hm.hM; omega
      · exact row_ne hm.li.own (hm.mks D hD2).2 rfl e.symm
    | cons k s =>
      obtain ⟨g, c, rfl⟩ := ownsRow_form (n := s.length) hm.srow
      have hcl := hm.srow.cells (g := g) rfl
      have hfl : flatS (k :: s).reverse = flatS s.reverse ++ k.cells := by rw [List.reverse_cons, flatS_append]
      have hln : (flatS s.reverse).length = s.length * 3 := by rw [flatS_length, List.length_reverse]
      have t0 : w.cell? ⟨g, s.length * 3, none⟩ = some (.pointer (some ⟨k.b, k.o, none⟩)) := by
        have := hcl (s.length * 3) (.pointer (some ⟨k.b, k.o, none⟩)) (by rw [hfl, ← hln, List.getElem?_append_right (Nat.le_refl _)]; simp [Task.cells, ptrV])
        rw [addr_add] at this
        exact this
      have t1 : w.cell? ⟨g, s.length * 3 + 1, none⟩ = some (.bool k.ent) := by
        have := hcl (s.length * 3 + 1) (.bool k.ent) (by rw [hfl, ← hln, List.getElem?_append_right (by omega)]; simp [Task.cells])
        rw [addr_add] at this
        exact this
      have t2 : w.cell? ⟨g, s.length * 3 + 2, none⟩ = some (.int .i64 (k.kl : Int)) := by
        have := hcl (s.length * 3 + 2) (.int .i64 (k.kl : Int)) (by rw [hfl, ← hln, List.getElem?_append_right (by omega)]; simp [Task.cells])
        rw [addr_add] at this
        exact this
      clear hcl hfl hln
      have hcap : s.length + 1 ≤ c := (ownsRow_cap (n := s.length + 1) hm.srow).1
      have hcap2 : c ≤ 9223372036854775807 := (ownsRow_cap (n := s.length + 1) hm.srow).2
      have hb1 := hg.b1
      have hb2 := hg.b2
      have hls := length_le_wts (k :: s)
      simp only [List.length_cons] at hls
      have c1 : w.cell? ⟨bs, 0, none⟩ = some (.slice (some ⟨g, 0, none⟩) (s.length + 1) c) := hm.cbs
      have c2 := hm.fbs
      have lg : g < w.heap.size := lt_of_cell t0
      have lb : bs < w.heap.size := lt_of_cell c1
      have hgb : g ≠ bs := fun e => hm.d2 (by rw [e]; rfl)
      obtain ⟨ent, b, o, t⟩ := k
      cases ent with
      | true =>
        obtain ⟨pre, ids, hnums, hil, hil2, hFt, hstep⟩ := hg.leave
        have ekl : Task.kl ⟨true, b, o, t⟩ = ids.length := hil.symm
        rw [ekl] at t2
        have hm1 := (hm.pop).keep0 ((Kept.refl _ _).alloc (.cells #[.pointer (some ⟨b, o, none⟩), .bool true, .int .i64 (ids.length : Int)] 175))
        have htb : ¬ LSet L bm nv w.heap.size := by
          rintro (e | e | e)
          · have := hm.hL; have := hm.kp.size; omega
          · have := hm.hM; have := hm.kp.size; omega
          · have := (ownsRow_lt hm.li.own e).1; omega
        have HG : Hid _ := hg
        have HS : Hid _ := hstep
        have HIL : Hid _ := hil
        have hids3 : ids.length ≤ 2 := hil2
        have hpl : pre.length ≤ 536870912 := by rw [hnums, List.length_append] at hb1; omega
        clear hg hstep hm hil ekl
        subst hnums
        dsimp only at t0 t1 t2
        go_upto_region 8 with fail
        clear t0 t1 t2 c1 c2
        have q0 : ((w.setCell ⟨bs, 0, none⟩ (.slice (some ⟨g, 0, none⟩) s.length c)).alloc (.cells #[.pointer (some ⟨b, o, none⟩), .bool true, .int .i64 (ids.length : Int)] 175)).cell? ⟨w.heap.size, 0, none⟩ = some (.pointer (some ⟨b, o, none⟩)) := by rw [World.cell?_alloc_at (hn := by simp [World.setCell])]; rfl
        have q2 : ((w.setCell ⟨bs, 0, none⟩ (.slice (some ⟨g, 0, none⟩) s.length c)).alloc (.cells #[.pointer (some ⟨b, o, none⟩), .bool true, .int .i64 (ids.length : Int)] 175)).cell? ⟨w.heap.size, 2, none⟩ = some (.int .i64 (ids.length : Int)) := by rw [World.cell?_alloc_at (hn := by simp [World.setCell])]; rfl
        have qs : w.heap.size < ((w.setCell ⟨bs, 0, none⟩ (.slice (some ⟨g, 0, none⟩) s.length c)).alloc (.cells #[.pointer (some ⟨b, o, none⟩), .bool true, .int .i64 (ids.length : Int)] 175)).heap.size := by simp
        generalize ((w.setCell ⟨bs, 0, none⟩ (.slice (some ⟨g, 0, none⟩) s.length c)).alloc (.cells #[.pointer (some ⟨b, o, none⟩), .bool true, .int .i64 (ids.length : Int)] 175)) = W1 at *
        generalize w.heap.size = tb at *
        obtain ⟨op, n, kids⟩ := t
        obtain ⟨hbB, hbP, f0, f1, _⟩ := hFt.below (hm1.kp.below hBf hLS)
        obtain ⟨i3, hi3, hz30, hz31, hz32⟩ := info_parts info3
        have hli := hm1.li
        have hcb := hm1.cbx
        have hbse : Bf ≤ W1.heap.size := Nat.le_trans hBf hm1.kp.size
        have hnl : ns.length < 1073741824 := by omega
        rcases hm1.urow.2 with ⟨rfl, hz⟩ | ⟨ug, uc, cur, rfl, r1, r2, r3, r4, r5, r6⟩
        · obtain rfl : pre = [] := List.eq_nil_of_length_eq_zero (by simp at hz; simp [hz.1])
          obtain rfl : ids = [] := List.eq_nil_of_length_eq_zero (by simpa using hz)
          simp only [List.length_nil] at q2
          clear hz
          go_wp2
          have hmd := hm1.keep0 ((Kept.refl _ _).drew)
          have hld := hmd.li
          go_region_with (go_at_call 80; refine (add80 _ Bf L bm bx nv ns b o op n [] _ _ _ hld hbse hnl hcb f0 f1 (.inl ⟨rfl, rfl⟩)).mono ?_; rintro e w' ⟨i, nv', ns', rfl, z1, z2, z3, z4⟩)
          have hm3 := hmd.made z1 z4 z3
          have c3 : w'.cell? ⟨tb, 0, none⟩ = some (.pointer (some ⟨b, o, none⟩)) := (z4.cell (p := ⟨tb, 0, none⟩) qs htb).trans q0
          have gm3 := hm3.gm
          have kb3 : isPB Bf w' (.pointer (some ⟨b, o, none⟩)) := ⟨b, o, rfl, hbB, hbP.of_block (z4.block b (lt_of_cell f0) (fun e => by
            rcases e with e | e | e
            · have := hli.bL; omega
            · have := hli.bM; omega
            · have := (ownsRow_lt hli.own e).2; omega))⟩
          have hur := hm3.urow
          have HZ : Hid _ := z2
          clear z2 z1 f0 f1 hli hld hcb q0 q2 hmd hm1
          have hne3 : ∀ k, some k = (.slice none 0 0 : Value).ownBlock → some k ≠ some w0.heap.size := by
            intro k hk e
            obtain ⟨es, clock, hb, _⟩ := gm3
            exact row_ne hur hb rfl (hk.symm.trans e)
          go_wp2_with
            (first
              | (at_mapUpdate; refine wpList_store_gm rfl _ _ _ 173 rfl 3 (ptrKeyB Bf) Tryd.underlying173 w0.heap.size m rfl gm3 _ _ rfl rfl kb3 ?_; intro w4 m4 g1 g2 g3 g4 g5; have hm4 := hm3.store g1 g4; have hur4 := ownsRow_of_block hur (fun k hk => g4.block k (ownsRow_lt hur hk).1 (hne3 k hk)); have G2 : Hid _ := g2; have G3 : Hid _ := g3; clear hm3 gm3 c3 hur kb3 hne3 g5 g2 g3)
              | (at_builtin; go_must (refine wpList_append_own_at _ rfl _ _ 46 rfl w0.heap.size 3 i3 (.int .i64 0) 1 8 Tryd.underlying46 hi3 hz30 hz31 hz32 rfl (by decide) _ 0 _ rfl (hur4.alloc _) ⟨w4.heap.size, 0, none⟩ 1 1 [.int .i64 (i : Int)] rfl rfl (cell_one_new _ _ _) (by intro y hy; simp at hy; subst hy; rfl) (by unfold maxLen; omega) (by omega) (by simp; have := hm4.kp.size; omega) ?_); intro uv5 w5 hown5 hgrow5 hnil5 hloc5))
          refine ⟨wts s, by simp [wts, Task.wt], s, ([] : List Int) ++ [(i : Int)], ns', m4, nv', .slice (some ⟨g, 0, none⟩) s.length c, uv5, ds, rfl, HS.out i ns' m4 HZ.out G2.out G3.out, ?_, hnd, ?_⟩
          · refine (hm4.keep0 ((Kept.refl _ _).alloc _)).num (vv := .slice none 0 0) rfl ?_ hgrow5 hloc5
            simpa using hown5
          · exact act85 _ _ rb ro bx _ bs uv5 rfl rfl rfl rfl rfl rfl rfl rfl rfl rfl rfl
        · have hcu : ∀ j (x : Int), (pre ++ ids)[j]? = some x → W1.cell? ⟨ug, j, none⟩ = some (.int .i64 x) := fun j x hj => by
            have := hm1.urow.cells (g := ug) rfl j (.int .i64 x) (by rw [List.getElem?_map, hj]; rfl)
            rwa [addr_add] at this
          unfold maxLen at r4
          clear r5 r6 r2
          match ids, hil2 with
          | [], _ =>
            simp only [List.append_nil, List.length_nil] at r3 q2 ⊢
            clear hcu
            by_cases p2 : uc = pre.length
            · subst p2
              go_wp2
              have hmd := hm1.keep0 ((Kept.refl _ _).drew)
              have hld := hmd.li
              go_region_with (go_at_call 80; refine (add80 _ Bf L bm bx nv ns b o op n [] _ _ _ hld hbse hnl hcb f0 f1 (.inl ⟨rfl, rfl⟩)).mono ?_; rintro e w' ⟨i, nv', ns', rfl, z1, z2, z3, z4⟩)
              have hm3 := hmd.made z1 z4 z3
              have c3 : w'.cell? ⟨tb, 0, none⟩ = some (.pointer (some ⟨b, o, none⟩)) := (z4.cell (p := ⟨tb, 0, none⟩) qs htb).trans q0
              have gm3 := hm3.gm
              have kb3 : isPB Bf w' (.pointer (some ⟨b, o, none⟩)) := ⟨b, o, rfl, hbB, hbP.of_block (z4.block b (lt_of_cell f0) (fun e => by
                rcases e with e | e | e
                · have := hli.bL; omega
                · have := hli.bM; omega
                · have := (ownsRow_lt hli.own e).2; omega))⟩
              have hur : w'.ownsRow w0.heap.size 3 1 (.slice (some ⟨ug, 0, none⟩) pre.length pre.length) pre.length (pre.map (Value.int .i64)) := by
                have := hm3.urow
                rw [List.append_nil] at this
                exact this
              have HZ : Hid _ := z2
              clear z2 z1 f0 f1 hli hld hcb q0 q2 hmd hm1
              have hne3 : ∀ k, some k = (.slice (some ⟨ug, 0, none⟩) pre.length pre.length : Value).ownBlock → some k ≠ some w0.heap.size := by
                intro k hk e
                obtain ⟨es, clock, hb, _⟩ := gm3
                exact row_ne hur hb rfl (hk.symm.trans e)
              go_wp2_with
                (first
                  | (at_mapUpdate; refine wpList_store_gm rfl _ _ _ 173 rfl 3 (ptrKeyB Bf) Tryd.underlying173 w0.heap.size m rfl gm3 _ _ rfl rfl kb3 ?_; intro w4 m4 g1 g2 g3 g4 g5; have hm4 := hm3.store g1 g4; have hur4 := ownsRow_of_block hur (fun k hk => g4.block k (ownsRow_lt hur hk).1 (hne3 k hk)); have G2 : Hid _ := g2; have G3 : Hid _ := g3; clear hm3 gm3 c3 hur kb3 hne3 g5 g2 g3)
                  | (at_builtin; go_must (refine wpList_append_own_at _ rfl _ _ 46 rfl w0.heap.size 3 i3 (.int .i64 0) 1 8 Tryd.underlying46 hi3 hz30 hz31 hz32 rfl (by decide) _ pre.length _ rfl (hur4.alloc _) ⟨w4.heap.size, 0, none⟩ 1 1 [.int .i64 (i : Int)] rfl rfl (cell_one_new _ _ _) (by intro y hy; simp at hy; subst hy; rfl) (by unfold maxLen; omega) (by omega) (by simp; have := hm4.kp.size; omega) ?_); intro uv5 w5 hown5 hgrow5 hnil5 hloc5))
              refine ⟨wts s, by simp [wts, Task.wt], s, pre ++ [(i : Int)], ns', m4, nv', .slice (some ⟨g, 0, none⟩) s.length c, uv5, ds, rfl, HS.out i ns' m4 HZ.out G2.out G3.out, ?_, hnd, ?_⟩
              · refine (hm4.keep0 ((Kept.refl _ _).alloc _)).num (vv := .slice (some ⟨ug, 0, none⟩) pre.length pre.length) rfl ?_ hgrow5 hloc5
                simpa using hown5
              · exact act85 _ _ rb ro bx _ bs uv5 rfl rfl rfl rfl rfl rfl rfl rfl rfl rfl rfl
            · go_wp2
              have hmd := hm1.keep0 ((Kept.refl _ _).drew)
              have hld := hmd.li
              go_region_with (go_at_call 80; refine (add80 _ Bf L bm bx nv ns b o op n [] _ _ _ hld hbse hnl hcb f0 f1 (.inl ⟨rfl, rfl⟩)).mono ?_; rintro e w' ⟨i, nv', ns', rfl, z1, z2, z3, z4⟩)
              have hm3 := hmd.made z1 z4 z3
              have c3 : w'.cell? ⟨tb, 0, none⟩ = some (.pointer (some ⟨b, o, none⟩)) := (z4.cell (p := ⟨tb, 0, none⟩) qs htb).trans q0
              have gm3 := hm3.gm
              have kb3 : isPB Bf w' (.pointer (some ⟨b, o, none⟩)) := ⟨b, o, rfl, hbB, hbP.of_block (z4.block b (lt_of_cell f0) (fun e => by
                rcases e with e | e | e
                · have := hli.bL; omega
                · have := hli.bM; omega
                · have := (ownsRow_lt hli.own e).2; omega))⟩
              have hur : w'.ownsRow w0.heap.size 3 1 (.slice (some ⟨ug, 0, none⟩) pre.length uc) pre.length (pre.map (Value.int .i64)) := by
                have := hm3.urow
                rw [List.append_nil] at this
                exact this
              have HZ : Hid _ := z2
              clear z2 z1 f0 f1 hli hld hcb q0 q2 hmd hm1
              have hne3 : ∀ k, some k = (.slice (some ⟨ug, 0, none⟩) pre.length uc : Value).ownBlock → some k ≠ some w0.heap.size := by
                intro k hk e
                obtain ⟨es, clock, hb, _⟩ := gm3
                exact row_ne hur hb rfl (hk.symm.trans e)
              go_wp2_with
                (first
                  | (at_mapUpdate; refine wpList_store_gm rfl _ _ _ 173 rfl 3 (ptrKeyB Bf) Tryd.underlying173 w0.heap.size m rfl gm3 _ _ rfl rfl kb3 ?_; intro w4 m4 g1 g2 g3 g4 g5; have hm4 := hm3.store g1 g4; have hur4 := ownsRow_of_block hur (fun k hk => g4.block k (ownsRow_lt hur hk).1 (hne3 k hk)); have G2 : Hid _ := g2; have G3 : Hid _ := g3; clear hm3 gm3 c3 hur kb3 hne3 g5 g2 g3)
                  | (at_builtin; go_must (refine wpList_append_own_at _ rfl _ _ 46 rfl w0.heap.size 3 i3 (.int .i64 0) 1 8 Tryd.underlying46 hi3 hz30 hz31 hz32 rfl (by decide) _ pre.length _ rfl (hur4.alloc _) ⟨w4.heap.size, 0, none⟩ 1 1 [.int .i64 (i : Int)] rfl rfl (cell_one_new _ _ _) (by intro y hy; simp at hy; subst hy; rfl) (by unfold maxLen; omega) (by omega) (by simp; have := hm4.kp.size; omega) ?_); intro uv5 w5 hown5 hgrow5 hnil5 hloc5))
              refine ⟨wts s, by simp [wts, Task.wt], s, pre ++ [(i : Int)], ns', m4, nv', .slice (some ⟨g, 0, none⟩) s.length c, uv5, ds, rfl, HS.out i ns' m4 HZ.out G2.out G3.out, ?_, hnd, ?_⟩
              · refine (hm4.keep0 ((Kept.refl _ _).alloc _)).num (vv := .slice (some ⟨ug, 0, none⟩) pre.length uc) rfl ?_ hgrow5 hloc5
                simpa using hown5
              · exact act85 _ _ rb ro bx _ bs uv5 rfl rfl rfl rfl rfl rfl rfl rfl rfl rfl rfl
          | [x], _ =>
            have hx : W1.cell? ⟨ug, pre.length, none⟩ = some (.int .i64 x) := hcu _ _ (by simp)
            simp only [List.length_append, List.length_cons, List.length_nil, Nat.zero_add] at r3 q2 ⊢
            have p1 : (pre.length : Int) ≤ (pre.length : Int) + 1 := by omega
            have p2 : ¬ uc = pre.length := by omega
            clear hcu
            go_wp2
            have hmd := hm1.keep0 ((Kept.refl _ _).drew)
            have hld := hmd.li
            go_region_with (go_at_call 80; refine (add80 _ Bf L bm bx nv ns b o op n [x] _ _ _ hld hbse hnl hcb f0 f1 (.inr (.inl ⟨x, ug, pre.length, rfl, rfl, rfl, hx⟩))).mono ?_; rintro e w' ⟨i, nv', ns', rfl, z1, z2, z3, z4⟩)
            clear hx
            have hm3 := hmd.made z1 z4 z3
            have c3 : w'.cell? ⟨tb, 0, none⟩ = some (.pointer (some ⟨b, o, none⟩)) := (z4.cell (p := ⟨tb, 0, none⟩) qs htb).trans q0
            have gm3 := hm3.gm
            have kb3 : isPB Bf w' (.pointer (some ⟨b, o, none⟩)) := ⟨b, o, rfl, hbB, hbP.of_block (z4.block b (lt_of_cell f0) (fun e => by
              rcases e with e | e | e
              · have := hli.bL; omega
              · have := hli.bM; omega
              · have := (ownsRow_lt hli.own e).2; omega))⟩
            have hur := ownsRow_take (n' := pre.length) hm3.urow (by simp)
            have htk : (List.map (Value.int .i64) (pre ++ [x])).take (pre.length * 1) = pre.map (Value.int .i64) := by simp
            rw [htk] at hur
            clear htk
            have HZ : Hid _ := z2
            clear z2 z1 f0 f1 hli hld hcb q0 q2 hmd hm1
            have hne3 : ∀ k, some k = (.slice (some ⟨ug, 0, none⟩) pre.length uc : Value).ownBlock → some k ≠ some w0.heap.size := by
              intro k hk e
              obtain ⟨es, clock, hb, _⟩ := gm3
              exact row_ne hur hb rfl (hk.symm.trans e)
            go_wp2_with
              (first
                | (at_mapUpdate; refine wpList_store_gm rfl _ _ _ 173 rfl 3 (ptrKeyB Bf) Tryd.underlying173 w0.heap.size m rfl gm3 _ _ rfl rfl kb3 ?_; intro w4 m4 g1 g2 g3 g4 g5; have hm4 := hm3.store g1 g4; have hur4 := ownsRow_of_block hur (fun k hk => g4.block k (ownsRow_lt hur hk).1 (hne3 k hk)); have G2 : Hid _ := g2; have G3 : Hid _ := g3; clear hm3 gm3 c3 hur kb3 hne3 g5 g2 g3)
                | (at_builtin; go_must (refine wpList_append_own_at _ rfl _ _ 46 rfl w0.heap.size 3 i3 (.int .i64 0) 1 8 Tryd.underlying46 hi3 hz30 hz31 hz32 rfl (by decide) _ pre.length _ rfl (hur4.alloc _) ⟨w4.heap.size, 0, none⟩ 1 1 [.int .i64 (i : Int)] rfl rfl (cell_one_new _ _ _) (by intro y hy; simp at hy; subst hy; rfl) (by unfold maxLen; omega) (by omega) (by simp; have := hm4.kp.size; omega) ?_); intro uv5 w5 hown5 hgrow5 hnil5 hloc5))
            refine ⟨wts s, by simp [wts, Task.wt], s, pre ++ [(i : Int)], ns', m4, nv', .slice (some ⟨g, 0, none⟩) s.length c, uv5, ds, rfl, HS.out i ns' m4 HZ.out G2.out G3.out, ?_, hnd, ?_⟩
            · refine (hm4.keep0 ((Kept.refl _ _).alloc _)).num (vv := .slice (some ⟨ug, 0, none⟩) pre.length uc) rfl ?_ hgrow5 hloc5
              simpa using hown5
            · exact act85 _ _ rb ro bx _ bs uv5 rfl rfl rfl rfl rfl rfl rfl rfl rfl rfl rfl
          | [x, y], _ =>
            have hx : W1.cell? ⟨ug, pre.length, none⟩ = some (.int .i64 x) := hcu _ _ (by simp)
            have hy : W1.cell? ⟨ug, pre.length + 1, none⟩ = some (.int .i64 y) := hcu _ _ (by simp)
            simp only [List.length_append, List.length_cons, List.length_nil, Nat.zero_add, Nat.reduceAdd] at r3 q2 ⊢
            have p1 : (pre.length : Int) ≤ (pre.length : Int) + 2 := by omega
            have p2 : ¬ uc = pre.length := by omega
            clear hcu
            go_wp2
            have hmd := hm1.keep0 ((Kept.refl _ _).drew)
            have hld := hmd.li
            go_region_with (go_at_call 80; refine (add80 _ Bf L bm bx nv ns b o op n [x, y] _ _ _ hld hbse hnl hcb f0 f1 (.inr (.inr ⟨x, y, ug, pre.length, rfl, rfl, rfl, hx, hy⟩))).mono ?_; rintro e w' ⟨i, nv', ns', rfl, z1, z2, z3, z4⟩)
            clear hx hy
            have hm3 := hmd.made z1 z4 z3
            have c3 : w'.cell? ⟨tb, 0, none⟩ = some (.pointer (some ⟨b, o, none⟩)) := (z4.cell (p := ⟨tb, 0, none⟩) qs htb).trans q0
            have gm3 := hm3.gm
            have kb3 : isPB Bf w' (.pointer (some ⟨b, o, none⟩)) := ⟨b, o, rfl, hbB, hbP.of_block (z4.block b (lt_of_cell f0) (fun e => by
              rcases e with e | e | e
              · have := hli.bL; omega
              · have := hli.bM; omega
              · have := (ownsRow_lt hli.own e).2; omega))⟩
            have hur := ownsRow_take (n' := pre.length) hm3.urow (by simp)
            have htk : (List.map (Value.int .i64) (pre ++ [x, y])).take (pre.length * 1) = pre.map (Value.int .i64) := by simp
            rw [htk] at hur
            clear htk
            have HZ : Hid _ := z2
            clear z2 z1 f0 f1 hli hld hcb q0 q2 hmd hm1
            have hne3 : ∀ k, some k = (.slice (some ⟨ug, 0, none⟩) pre.length uc : Value).ownBlock → some k ≠ some w0.heap.size := by
              intro k hk e
              obtain ⟨es, clock, hb, _⟩ := gm3
              exact row_ne hur hb rfl (hk.symm.trans e)
            go_wp2_with
              (first
                | (at_mapUpdate; refine wpList_store_gm rfl _ _ _ 173 rfl 3 (ptrKeyB Bf) Tryd.underlying173 w0.heap.size m rfl gm3 _ _ rfl rfl kb3 ?_; intro w4 m4 g1 g2 g3 g4 g5; have hm4 := hm3.store g1 g4; have hur4 := ownsRow_of_block hur (fun k hk => g4.block k (ownsRow_lt hur hk).1 (hne3 k hk)); have G2 : Hid _ := g2; have G3 : Hid _ := g3; clear hm3 gm3 c3 hur kb3 hne3 g5 g2 g3)
                | (at_builtin; go_must (refine wpList_append_own_at _ rfl _ _ 46 rfl w0.heap.size 3 i3 (.int .i64 0) 1 8 Tryd.underlying46 hi3 hz30 hz31 hz32 rfl (by decide) _ pre.length _ rfl (hur4.alloc _) ⟨w4.heap.size, 0, none⟩ 1 1 [.int .i64 (i : Int)] rfl rfl (cell_one_new _ _ _) (by intro y hy; simp at hy; subst hy; rfl) (by unfold maxLen; omega) (by omega) (by simp; have := hm4.kp.size; omega) ?_); intro uv5 w5 hown5 hgrow5 hnil5 hloc5))
            refine ⟨wts s, by simp [wts, Task.wt], s, pre ++ [(i : Int)], ns', m4, nv', .slice (some ⟨g, 0, none⟩) s.length c, uv5, ds, rfl, HS.out i ns' m4 HZ.out G2.out G3.out, ?_, hnd, ?_⟩
            · refine (hm4.keep0 ((Kept.refl _ _).alloc _)).num (vv := .slice (some ⟨ug, 0, none⟩) pre.length uc) rfl ?_ hgrow5 hloc5
              simpa using hown5
            · exact act85 _ _ rb ro bx _ bs uv5 rfl rfl rfl rfl rfl rfl rfl rfl rfl rfl rfl
      | false =>
        have ekl : Task.kl ⟨false, b, o, t⟩ = 0 := rfl
        rw [ekl] at t2
        have hm1 := (hm.pop).keep0 ((Kept.refl _ _).alloc (.cells #[.pointer (some ⟨b, o, none⟩), .bool false, .int .i64 0] 175))
        have htb : w.heap.size ≠ bs ∧ w0.heap.size ≤ w.heap.size := ⟨by omega, hm.kp.size⟩
        have hFt : FormAt Bf w0 b o t := by
          obtain ⟨ts, ⟨hF0, _⟩, _⟩ := hg.ts
          exact hF0
        have HG : Hid (GS (FormAt Bf w0) root ({ ent := false, b := b, o := o, t := t } :: s) nums ns m) := hg
        clear hg hm ekl
        dsimp only at t0 t1 t2
        go_upto_region 12 with fail
        clear t0 t1 t2 c1 c2
        have q0 : ((w.setCell ⟨bs, 0, none⟩ (.slice (some ⟨g, 0, none⟩) s.length c)).alloc (.cells #[.pointer (some ⟨b, o, none⟩), .bool false, .int .i64 0] 175)).cell? ⟨w.heap.size, 0, none⟩ = some (.pointer (some ⟨b, o, none⟩)) := by rw [World.cell?_alloc_at (hn := by simp [World.setCell])]; rfl
        have qs : w.heap.size < ((w.setCell ⟨bs, 0, none⟩ (.slice (some ⟨g, 0, none⟩) s.length c)).alloc (.cells #[.pointer (some ⟨b, o, none⟩), .bool false, .int .i64 0] 175)).heap.size := by simp
        generalize ((w.setCell ⟨bs, 0, none⟩ (.slice (some ⟨g, 0, none⟩) s.length c)).alloc (.cells #[.pointer (some ⟨b, o, none⟩), .bool false, .int .i64 0] 175)) = W1 at *
        generalize w.heap.size = tb at *
        obtain ⟨op, n, kids⟩ := t
        have hBW := hm1.kp.below hBf hLS
        obtain ⟨hbB, hbP0, p0, p1, ka, kb, ko, kc, p2, hka, hkF⟩ := id hFt
        have hbP := hbP0.of_block (hBW.block b hbB)
        have f0 := (hBW.cell (p := ⟨b, o, none⟩) hbB).trans p0
        have f1 := (hBW.cell (p := ⟨b, o + 1, none⟩) hbB).trans p1
        have f2 := (hBW.cell (p := ⟨b, o + 2, none⟩) hbB).trans p2
        clear p0 p1 p2 hbP0
        obtain ⟨i3, hi3, hz30, hz31, hz32⟩ := info_parts info3
        have gm1 := hm1.gm
        have kb1 : isPB Bf W1 (.pointer (some ⟨b, o, none⟩)) := ⟨b, o, rfl, hbB, hbP⟩
        have hul := hm1.urow
        cases hmk : m (.pointer (some ⟨b, o, none⟩)) with
        | some x =>
          obtain ⟨i, rfl, hi0, hgs⟩ := GS.hit (F := FormAt Bf w0) (fun h h' => FormAt.inj h h') HG.out hmk
          have hi1 : (i == -1) = false := by simp; omega
          have HGS : Hid _ := hgs
          clear hgs HG f0 f1 f2 hka hkF hFt
          go_wp2_with
            (first
              | (at_lookup; go_must (refine wpList_look_gm rfl _ _ 173 rfl 3 (ptrKeyB Bf) Tryd.underlying173 (.int .i64 0) (zero3 _) w0.heap.size m rfl gm1 (.pointer (some ⟨b, o, none⟩)) rfl kb1 ?_); rw [hmk])
              | (at_builtin; go_must (refine wpList_append_own_at _ rfl _ _ 46 rfl w0.heap.size 3 i3 (.int .i64 0) 1 8 Tryd.underlying46 hi3 hz30 hz31 hz32 rfl (by decide) _ nums.length _ rfl (hul.alloc _) ⟨W1.heap.size, 0, none⟩ 1 1 [.int .i64 i] rfl rfl (cell_one_new _ _ _) (by intro y hy; simp at hy; subst hy; rfl) (by unfold maxLen; omega) (by omega) (by simp; have := hm1.kp.size; omega) ?_); intro uv5 w5 hown5 hgrow5 hnil5 hloc5))
          refine ⟨wts s, by have := Tr.size_pos (.mk op n kids); simp [wts, Task.wt]; omega, s, nums ++ [i], ns, m, nv, .slice (some ⟨g, 0, none⟩) s.length c, uv5, ds, rfl, HGS.out, ?_, hnd, ?_⟩
          · refine (hm1.keep0 ((Kept.refl _ _).alloc _)).num (vv := uv) rfl ?_ hgrow5 hloc5
            simpa using hown5
          · exact act85 _ _ rb ro bx _ bs uv5 rfl rfl rfl rfl rfl rfl rfl rfl rfl rfl rfl
        | none =>
          have hT1 : TabK W1 := fun j hj => (hBW.cell (p := ⟨1, j, none⟩) (by simp; omega)).trans (hT j hj)
          by_cases hw : wellN op n kids.length
          · have hkl2 := wellN_le hw
            obtain ⟨i8, hi8, hz80, hz81, hz82⟩ := info_parts info178
            go_wp2_with
              (first
                | (at_lookup; go_must (refine wpList_look_gm rfl _ _ 173 rfl 3 (ptrKeyB Bf) Tryd.underlying173 (.int .i64 0) (zero3 _) w0.heap.size m rfl gm1 (.pointer (some ⟨b, o, none⟩)) rfl kb1 ?_); rw [hmk])
                | (go_at_call 86; go_must (refine (kids86_good _ b o op n ka kb ko kids.length kc hT1 f0 f1 f2 hka hkl2 hw).mono ?_); rintro e w2 ⟨nb, rfl, hnb, hnb2, hP2, hk2⟩; have hm2 := hm1.keep0 hk2; have gm2 := hm2.gm; have kb2 := keyStay hk2 (fun _ _ f => f) _ kb1; have q2 := (hk2.cell (p := ⟨tb, 0, none⟩) qs (fun f => f)).trans q0; clear gm1 kb1 q0 f0 f1 f2 hT1 hmk)
                | (at_mapUpdate; go_must (refine wpList_store_gm rfl _ _ _ 173 rfl 3 (ptrKeyB Bf) Tryd.underlying173 w0.heap.size m rfl gm2 _ _ rfl rfl kb2 ?_); intro w3 m3 g1 g2 g3 g4 g5; have hm3 := hm2.store g1 g4; have q3 := (World.cell?_of_block (w := w2) (a := ⟨tb, 0, none⟩) (g4.block tb (lt_of_cell q2) (fun e => gm_ne gm2 q2 (Option.some.inj e).symm))).trans q2; have c3 := hm3.cbs; have G2 : Hid _ := g2; have G3 : Hid _ := g3; have hsr := hm3.srow; have hP3 : PtrsAt w3 nb kb ko kids.length := (fun j hj => (World.cell?_of_block (w := w2) (a := ⟨nb, j, none⟩) (g4.block nb (lt_of_cell (hP2 j hj)) (fun e => gm_ne gm2 (hP2 j hj) (Option.some.inj e).symm))).trans (hP2 j hj)); have G5 : Hid _ := g5; clear gm2 kb2 q2 g2 g3 g5 hP2)
                | (at_builtin; go_must (refine wpList_append_own_at _ rfl _ _ 176 rfl w0.heap.size 175 i8 _ 3 24 Tryd.underlying176 hi8 hz80 hz81 hz82 rfl (by decide) (.slice (some ⟨g, 0, none⟩) s.length c) s.length _ rfl (hsr.alloc _) ⟨w3.heap.size, 0, none⟩ 1 1 [.pointer (some ⟨b, o, none⟩), .bool true, .int .i64 (kids.length : Int)] rfl rfl (three_cells _ _ _ _ _) (by intro y hy; simp at hy; rcases hy with rfl | rfl | rfl <;> rfl) (by unfold maxLen; omega) (by omega) (by simp; have := hm3.kp.size; omega) ?_); intro sv5 w5 hown5 hgrow5 hnil5 hloc5; obtain ⟨g5, c5, rfl⟩ := ownsRow_form hown5; have hm5 := (hm3.keep0 ((Kept.refl _ _).alloc _)).push (k := ⟨true, b, o, .mk op n kids⟩) hown5 hgrow5 hloc5; have e5 := hm5.cbs; have k5 : Kept (fun k => some k = (Value.slice (some ⟨g, 0, none⟩) s.length c).ownBlock) w3 w5 := ((Kept.refl _ _).alloc _).grown hgrow5 (fun k _ e => e); have b5 := (k5.cell (p := ⟨bs, 0, none⟩) (lt_of_cell c3) (fun e => hm3.d2 e.symm)).trans c3; have a5 := (k5.frozen (p := ⟨bs, 0, none⟩) (lt_of_cell c3) (fun e => hm3.d2 e.symm)).trans hm3.fbs; clear c3 q3 hsr hnil5)
                | (go_at_call 122; go_must (refine (back124 _ _ _ _).mono ?_); rintro e w6 ⟨rfl, rfl⟩))
            have hm6 := hm5.keep0 ((Kept.refl _ _).alloc (.cells #[.slice (some ⟨nb, 0, none⟩) kids.length kids.length] 177))
            have sz3 : w2.heap.size ≤ w3.heap.size := g4.size
            have sz5 : w3.heap.size + 1 ≤ w5.heap.size := by have := hgrow5.size; simpa using this
            have hgW : g < W1.heap.size := (ownsRow_lt hm1.srow (k := g) rfl).1
            have lbW : bs < W1.heap.size := lt_of_cell hm1.cbs
            have hsW := hk2.size
            have hgg : g5 = g ∨ g5 = w3.heap.size + 1 := by
              rcases hloc5 with e | e
              · exact .inl (Option.some.inj e)
              · right
                have := Option.some.inj e
                simpa using this
            have hP6 : PtrsAt ((w5.setCell ⟨bs, 0, none⟩ (.slice (some ⟨g5, 0, none⟩) (s.length + 1) c5)).alloc (.cells #[.slice (some ⟨nb, 0, none⟩) kids.length kids.length] 177)) nb kb ko kids.length := by
              intro j hj
              rw [World.cell?_alloc_past _ _ _ (by simp [World.setCell]; omega), World.cell?_setCell_other _ _ _ _ (by first | (simp; done) | (simp; omega))]
              exact (k5.cell (p := ⟨nb, j, none⟩) (by simp; omega) (fun e => by have e' : nb = g := Option.some.inj e; omega)).trans (hP3 j hj)
            have hB6 : ((w5.setCell ⟨bs, 0, none⟩ (.slice (some ⟨g5, 0, none⟩) (s.length + 1) c5)).alloc (.cells #[.slice (some ⟨nb, 0, none⟩) kids.length kids.length] 177)).cell? ⟨w5.heap.size, 0, none⟩ = some (.slice (some ⟨nb, 0, none⟩) kids.length kids.length) := by rw [World.cell?_alloc_at (hn := by simp [World.setCell])]; rfl
            have hs6 : ((w5.setCell ⟨bs, 0, none⟩ (.slice (some ⟨g5, 0, none⟩) (s.length + 1) c5)).alloc (.cells #[.slice (some ⟨nb, 0, none⟩) kids.length kids.length] 177)).heap.size = w5.heap.size + 1 := by simp [World.setCell]
            have hnb6 : nb < w5.heap.size := by omega
            have hsv6 : g5 ≠ nb ∧ g5 < w5.heap.size := ⟨by omega, (ownsRow_lt hown5 (k := g5) rfl).1⟩
            have hbsnb : bs ≠ nb := by omega
            clear e5 b5 a5 hown5 hgrow5 hloc5 hP3 k5 hm3 hm2 hk2 hm1
            generalize ((w5.setCell ⟨bs, 0, none⟩ (.slice (some ⟨g5, 0, none⟩) (s.length + 1) c5)).alloc (.cells #[.slice (some ⟨nb, 0, none⟩) kids.length kids.length] 177)) = W6 at *
            have lb6 : bs < w5.heap.size := by omega
            generalize w5.heap.size = Bs at *
            refine wp_act (act96 _ _ rb ro bx _ bs Bs uv rfl rfl rfl rfl rfl rfl rfl rfl rfl rfl rfl rfl) (fun u2 => ?_)
            refine (wpIn_wide (n := 9)).1 ?_
            have hsq : SeqStopsK Fence.wide (9 - 1) Tryd.prog 132 #[.pointer (some ⟨Bs, 0, none⟩)] (fun x : Nat × Nat × Nat => #[.int .i64 (x.1 : Int), .pointer (some ⟨x.2.1, x.2.2, none⟩)]) (Two Bs nb) (fun ys => ys = down kb ko kids.length 0) (fun _ => True) kids.length W6 := by
              intro l J Jx W hW _ _ hY hJ0
              refine back132 Fence.wide (9 - 1) trivial rfl (by decide) l Bs nb kb ko kids.length hkl2 J Jx hY W ((hW.cell (p := ⟨Bs, 0, none⟩) (by simp; omega)).trans hB6) (fun j hj => (hW.cell (p := ⟨nb, j, none⟩) (by simp; omega)).trans (hP6 j hj)) hJ0
            have hds6 : ∀ D ∈ ds, D < W6.heap.size := fun D hD => (Array.getElem?_eq_some_iff.1 (hm6.mks D hD).2).1
            have hmp6 : w0.heap.size < W6.heap.size := hm6.gm.lt
            refine wpIn_rangeFunc_ownG (F := Fence.wide) rfl (by decide) (gf := 132) (lb := #[.pointer (some ⟨Bs, 0, none⟩)]) rfl trivial (enters_of Tryd.func132 (by kernel_rfl) rfl) hsq (fun h h' => h.trans h')
              (fun W l o o' hl h1 h2 h3 => ⟨World.putObj_heap_other (by omega), World.putObj_heap_other (by omega)⟩) (Below.refl _ _) (fun _ => rfl)
              (fun pre W => ∃ sv, MS w0 Bf L bm nv0 bx w0.heap.size bs (pre.reverse.map dummyT ++ ⟨true, b, o, .mk op n kids⟩ :: s) nums ns m3 nv sv uv ds W ∧ sv.ownBlock ≠ some nb ∧ sv.ownBlock ≠ some Bs ∧ W6.heap.size ≤ W.heap.size)
              (fun _ _ _ => False) ?own (fun _ _ _ _ _ h _ _ => h) ?zero
              (fun x => { tmps := #[.pointer (some ⟨rb, ro, none⟩), .func (.func 86) #[] #[], .func (.func 80) #[] #[.pointer (some ⟨bx, 0, none⟩)], undef, undef, undef, .bool false, .map (some w0.heap.size), uv, .pointer (some ⟨bs, 0, none⟩), u2 10, u2 11, u2 12, u2 13, u2 14, u2 15, u2 16, u2 17, .pointer (some ⟨x.2.1, x.2.2, none⟩), u2 19, u2 20, u2 21, u2 22, u2 23, u2 24, u2 25, u2 26, u2 27, u2 28, u2 29, u2 30, u2 31, u2 32, u2 33, u2 34, u2 35, u2 36, u2 37, u2 38, u2 39, u2 40, u2 41, u2 42, u2 43, u2 44, u2 45, u2 46, u2 47, u2 48, u2 49, u2 50, u2 51, u2 52, u2 53, u2 54, u2 55, u2 56, u2 57, u2 58, u2 59, u2 60, u2 61, u2 62, u2 63, u2 64, u2 65, u2 66, u2 67, u2 68, u2 69, u2 70, u2 71, u2 72, u2 73, u2 74, u2 75, u2 76, u2 77, u2 78, u2 79, u2 80, u2 81, u2 82, u2 83, u2 84, u2 85, u2 86, u2 87, u2 88, u2 89, u2 90, u2 91, u2 92, u2 93, u2 94, u2 95, .func (.func 132) #[] #[.pointer (some ⟨Bs, 0, none⟩)], .int .i64 (x.1 : Int), .pointer (some ⟨x.2.1, x.2.2, none⟩), u2 99, u2 100, u2 101, u2 102, u2 103], defers := [] }) ?assign ?body ?done ?stop
            case own =>
              rintro pre W W' row ⟨sv, hM, h1, h2, h3⟩ hgr hr
              have hk : Kept (fun k => some k = row) W W' := (Kept.refl _ _).grown hgr (fun k _ e => e)
              have hrr : ∀ k, some k = row → W6.heap.size ≤ k ∧ ∃ o : Obj, W.heap[k]? = some o ∧ o.isCells = false := fun k e => hr k e.symm
              refine ⟨sv, hM.keep hk ?_ ?_ ?_ ?_ ?_ ?_ ?_ ?_ ?_, h1, h2, Nat.le_trans h3 hgr.size⟩
              · intro k e hl
                obtain ⟨a1, o', a2, a3⟩ := hrr k e
                rcases hl with e' | e' | e'
                · have := hM.hL; omega
                · have := hM.hM; omega
                · exact row_ne hM.li.own a2 a3 e'.symm
              · intro e; have := (hrr _ e).1; have := hM.hbx; omega
              · intro e; have := (hrr _ e).1; omega
              · intro e; have := (hrr _ e).1; omega
              · intro k e' e
                obtain ⟨a1, o', a2, a3⟩ := hrr k e
                exact row_ne hM.srow a2 a3 e'.symm
              · intro k e' e
                obtain ⟨a1, o', a2, a3⟩ := hrr k e
                exact row_ne hM.urow a2 a3 e'.symm
              · intro D hD e; have := (hrr _ e).1; have := hds6 D hD; omega
              · intro k hk0 e; have := (hrr _ e).1; omega
              · intro k hk0 e; have := (hrr _ e).1; omega
            case zero => exact ⟨_, hm6, fun e => hsv6.1 (Option.some.inj e), fun e => by have e' : g5 = Bs := Option.some.inj e; have := hsv6.2; omega, Nat.le_refl _⟩
            case assign =>
              intro l x W K hK
              gi_wp2
              exact hK
            case body =>
              rintro l pre x W ⟨sv, hM, h1, h2, h3⟩ hlen
              have sr := hM.srow
              have el : (pre.reverse.map dummyT ++ ⟨true, b, o, .mk op n kids⟩ :: s).length = (pre.length + s.length) + 1 := by simp; omega
              rw [el] at sr
              obtain ⟨gv, cv, rfl⟩ := ownsRow_form sr
              have cb := hM.cbs
              have fb := hM.fbs
              have lbs : bs < W.heap.size := lt_of_cell cb
              have hW0 := hM.kp.size
              have HM : Hid (MS w0 Bf L bm nv0 bx w0.heap.size bs (pre.reverse.map dummyT ++ ⟨true, b, o, .mk op n kids⟩ :: s) nums ns m3 nv (.slice (some ⟨gv, 0, none⟩) (pre.length + s.length + 1) cv) uv ds W) := hM
              have EL : Hid _ := el
              clear hM el
              gi_wp2_with (gi_at_builtin; go_must (refine wpListIn_append_own_at _ rfl _ _ 176 rfl w0.heap.size 175 i8 _ 3 24 Tryd.underlying176 hi8 hz80 hz81 hz82 rfl (by decide) (.slice (some ⟨gv, 0, none⟩) (pre.length + s.length + 1) cv) (pre.length + s.length + 1) _ rfl (sr.alloc _) ⟨W.heap.size, 0, none⟩ 1 1 [.pointer (some ⟨x.2.1, x.2.2, none⟩), .bool false, .int .i64 0] rfl rfl (three_cells _ _ _ _ _) (by intro y hy; simp at hy; rcases hy with rfl | rfl | rfl <;> rfl) (by unfold maxLen; omega) (by omega) (by simp; omega) ?_); intro sv7 w7 hown7 hgrow7 hnil7 hloc7; obtain ⟨g7, c7, rfl⟩ := ownsRow_form hown7; have k7 : Kept (fun k => some k = (Value.slice (some ⟨gv, 0, none⟩) (pre.length + s.length + 1) cv).ownBlock) W w7 := ((Kept.refl _ _).alloc _).grown hgrow7 (fun k _ e => e); have b7 := (k7.cell (p := ⟨bs, 0, none⟩) lbs (fun e => HM.out.d2 e.symm)).trans cb; have a7 := (k7.frozen (p := ⟨bs, 0, none⟩) lbs (fun e => HM.out.d2 e.symm)).trans fb)
              have hBW : Bs < W.heap.size := by omega
              have hnW : nb < W.heap.size := by omega
              refine ⟨(((KeepsOthers.alloc W _).trans (KeepsOthers.of_grownBy hgrow7 (row_cells (sr.alloc _)))).trans (KeepsOthers.setCell _ _ _)).from _, ⟨?_, ?_⟩, .slice (some ⟨g7, 0, none⟩) (pre.length + s.length + 1 + 1) c7, ?_, ?_, ?_, ?_⟩
              · rw [Below.heap_setCell _ _ _ _ (by simp; omega)]
                exact k7.block Bs hBW (fun e => h2 e.symm)
              · rw [Below.heap_setCell _ _ _ _ (by simp; omega)]
                exact k7.block nb hnW (fun e => h1 e.symm)
              · have e1 : (pre ++ [x]).reverse.map dummyT ++ ⟨true, b, o, .mk op n kids⟩ :: s = dummyT x :: (pre.reverse.map dummyT ++ ⟨true, b, o, .mk op n kids⟩ :: s) := by simp
                rw [e1]
                refine (HM.out.keep0 ((Kept.refl _ _).alloc _)).push (k := dummyT x) ?_ hgrow7 hloc7
                rw [EL.out]
                exact hown7
              · intro e
                rcases hloc7 with e' | e'
                · exact h1 (e'.symm.trans e)
                · have e2 : (W.alloc (.cells #[.pointer (some ⟨x.2.1, x.2.2, none⟩), .bool false, .int .i64 0] 175)).heap.size = nb := Option.some.inj (e'.symm.trans e)
                  simp at e2
                  omega
              · intro e
                rcases hloc7 with e' | e'
                · exact h2 (e'.symm.trans e)
                · have e2 : (W.alloc (.cells #[.pointer (some ⟨x.2.1, x.2.2, none⟩), .bool false, .int .i64 0] 175)).heap.size = Bs := Option.some.inj (e'.symm.trans e)
                  simp at e2
                  omega
              · have := k7.size
                simp [World.setCell]
                omega
            case done =>
              rintro D xs W hD rfl ⟨sv, hM, h1, h2, h3⟩ hK
              go_wp2
              have hD6 : D ∉ ds := fun e => by have := hds6 D e; omega
              refine ⟨wts (kidTasks kb ko kids ++ ⟨true, b, o, .mk op n kids⟩ :: s), wts_enter b o kb ko (.mk op n kids) s, kidTasks kb ko kids ++ ⟨true, b, o, .mk op n kids⟩ :: s, nums, ns, m3, nv, sv, uv, D :: ds, rfl, GS.enter HG.out hw (fun j k hk => hkF.get hk) G2.out G3.out, ?_, ?_, ?_⟩
              · refine (hM.swap ?_ ?_).mark (by omega) hK
                · simp [kidTasks_length, down_length]
                · have e1 : flatS (List.map dummyT (down kb ko kids.length 0).reverse).reverse = flatS (kidTasks kb ko kids).reverse := by
                    apply flatS_map
                    have e3 : ∀ l : List Task, l.reverse.map Task.cells = (l.map Task.cells).reverse := fun l => by simp
                    rw [e3, e3, down_cells, kidTasks_cells]
                  rw [List.reverse_append, List.reverse_append]
                  have e2 : ∀ a a' : List Task, flatS (a ++ a') = flatS a ++ flatS a' := fun a a' => by simp [flatS]
                  rw [e2, e2, e1]
              · exact List.nodup_cons.2 ⟨hD6, hnd⟩
              · exact act85 _ _ rb ro bx _ bs uv rfl rfl rfl rfl rfl rfl rfl rfl rfl rfl rfl
            case stop =>
              rintro D c' pre W _ _ h
              exact h.elim
          · go_wp2_with
              (first
                | (at_lookup; go_must (refine wpList_look_gm rfl _ _ 173 rfl 3 (ptrKeyB Bf) Tryd.underlying173 (.int .i64 0) (zero3 _) w0.heap.size m rfl gm1 (.pointer (some ⟨b, o, none⟩)) rfl kb1 ?_); rw [hmk])
                | (go_at_call 86; go_must (refine (kids86_bad _ b o op n ka kids.length kc hT1 f0 f1 f2 hw).mono ?_); rintro e w2 ⟨rfl, hk2⟩))
            have hm2 := hm1.keep0 hk2
            refine leave_marks (v := .bool false) (fun w' => by simp [results, Tryd.results85, go_sem]) ds w2 hnd (fun D hD => (hm2.mks D hD).2) (fun w' hk' => ?_)
            exact ⟨hm2.kp.trans hk' (fun D hD hD2 => by have := (hm2.mks D hD2).1; omega), .inl ⟨HG.out.bad hw, rfl⟩⟩
end Go.Proofs.YtdbpdanocpfboaaDoor
