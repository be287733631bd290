import Derived.Test.YtdbpdanocpfboaaDoorZWi3
import Derived.Test.YtdbpdanocpfboaaDoorZSiz
/- The walk of package nodes over numbers of Nodes. -/
namespace Go.Proofs.YtdbpdanocpfboaaDoor
open Go.RowKit Go.Shelf
attribute [local go_sem] Oper.semAt_some

/-- a frame of 104 between two rounds -/
theorem frame104 (tm : Array Value) (v0 v1 v2 v3 v4 v5 v6 v7 v8 v9 : Value) (hs : tm.size = 104) (h0 : tm[0]? = some v0) (h1 : tm[1]? = some v1) (h2 : tm[2]? = some v2) (h3 : tm[3]? = some v3) (h4 : tm[4]? = some v4) (h5 : tm[5]? = some v5) (h6 : tm[6]? = some v6) (h7 : tm[7]? = some v7) (h8 : tm[8]? = some v8) (h9 : tm[9]? = some v9) :
    ∃ u : Nat → Value, tm = #[v0, v1, v2, v3, v4, v5, v6, v7, v8, v9, u 10, u 11, u 12, u 13, u 14, u 15, u 16, u 17, u 18, u 19, u 20, u 21, u 22, u 23, u 24, u 25, u 26, u 27, u 28, u 29, u 30, u 31, u 32, u 33, u 34, u 35, u 36, u 37, u 38, u 39, u 40, u 41, u 42, u 43, u 44, u 45, u 46, u 47, u 48, u 49, u 50, u 51, u 52, u 53, u 54, u 55, u 56, u 57, u 58, u 59, u 60, u 61, u 62, u 63, u 64, u 65, u 66, u 67, u 68, u 69, u 70, u 71, u 72, u 73, u 74, u 75, u 76, u 77, u 78, u 79, u 80, u 81, u 82, u 83, u 84, u 85, u 86, u 87, u 88, u 89, u 90, u 91, u 92, u 93, u 94, u 95, u 96, u 97, u 98, u 99, u 100, u 101, u 102, u 103] := by
  refine ⟨fun i => tm[i]!, ?_⟩
  have e : tm.toList = (List.range tm.size).map (fun i => tm[i]!) := by
    apply List.ext_getElem
    · simp
    · intro i a b
      have : i < tm.size := by simpa using a
      simp [this]
  rw [hs] at e
  have r : List.range 104 = [0, 1, 2, 3, 4, 5, 6, 7, 8, 9, 10, 11, 12, 13, 14, 15, 16, 17, 18, 19, 20, 21, 22, 23, 24, 25, 26, 27, 28, 29, 30, 31, 32, 33, 34, 35, 36, 37, 38, 39, 40, 41, 42, 43, 44, 45, 46, 47, 48, 49, 50, 51, 52, 53, 54, 55, 56, 57, 58, 59, 60, 61, 62, 63, 64, 65, 66, 67, 68, 69, 70, 71, 72, 73, 74, 75, 76, 77, 78, 79, 80, 81, 82, 83, 84, 85, 86, 87, 88, 89, 90, 91, 92, 93, 94, 95, 96, 97, 98, 99, 100, 101, 102, 103] := by decide
  rw [r] at e
  simp only [List.map] at e
  have g0 : tm[0]! = v0 := by simp [getElem!_def, h0]
  have g1 : tm[1]! = v1 := by simp [getElem!_def, h1]
  have g2 : tm[2]! = v2 := by simp [getElem!_def, h2]
  have g3 : tm[3]! = v3 := by simp [getElem!_def, h3]
  have g4 : tm[4]! = v4 := by simp [getElem!_def, h4]
  have g5 : tm[5]! = v5 := by simp [getElem!_def, h5]
  have g6 : tm[6]! = v6 := by simp [getElem!_def, h6]
  have g7 : tm[7]! = v7 := by simp [getElem!_def, h7]
  have g8 : tm[8]! = v8 := by simp [getElem!_def, h8]
  have g9 : tm[9]! = v9 := by simp [getElem!_def, h9]
  rw [g0, g1, g2, g3, g4, g5, g6, g7, g8, g9] at e
  exact Array.ext' e
theorem act128 (tm : Array Value) (d : List Deferred) (i0 : Int) (bx bo mp bs : Nat) (uv : Value) (hs : tm.size = 104) (h0 : tm[0]? = some (.int .i64 i0)) (h1 : tm[1]? = some (.func (.func 127) #[] #[.pointer (some ⟨bx, 0, none⟩)])) (h2 : tm[2]? = some (.func (.func 129) #[] #[.pointer (some ⟨bo, 0, none⟩)]))
    (h3 : tm[3]? = some undef) (h4 : tm[4]? = some undef) (h5 : tm[5]? = some undef) (h6 : tm[6]? = some (.bool false)) (h7 : tm[7]? = some (.map (some mp))) (h8 : tm[8]? = some uv) (h9 : tm[9]? = some (.pointer (some ⟨bs, 0, none⟩))) :
    ∃ u : Nat → Value, ({ tmps := tm, defers := d } : Act) = { tmps := #[.int .i64 i0, .func (.func 127) #[] #[.pointer (some ⟨bx, 0, none⟩)], .func (.func 129) #[] #[.pointer (some ⟨bo, 0, none⟩)], undef, undef, undef, .bool false, .map (some mp), uv, .pointer (some ⟨bs, 0, none⟩), u 10, u 11, u 12, u 13, u 14, u 15, u 16, u 17, u 18, u 19, u 20, u 21, u 22, u 23, u 24, u 25, u 26, u 27, u 28, u 29, u 30, u 31, u 32, u 33, u 34, u 35, u 36, u 37, u 38, u 39, u 40, u 41, u 42, u 43, u 44, u 45, u 46, u 47, u 48, u 49, u 50, u 51, u 52, u 53, u 54, u 55, u 56, u 57, u 58, u 59, u 60, u 61, u 62, u 63, u 64, u 65, u 66, u 67, u 68, u 69, u 70, u 71, u 72, u 73, u 74, u 75, u 76, u 77, u 78, u 79, u 80, u 81, u 82, u 83, u 84, u 85, u 86, u 87, u 88, u 89, u 90, u 91, u 92, u 93, u 94, u 95, u 96, u 97, u 98, u 99, u 100, u 101, u 102, u 103], defers := d } := by
  obtain ⟨u, e⟩ := frame104 tm _ _ _ _ _ _ _ _ _ _ hs h0 h1 h2 h3 h4 h5 h6 h7 h8 h9
  exact ⟨u, by rw [e]⟩
theorem act128k (tm : Array Value) (d : List Deferred) (i0 : Int) (bx bo mp bs Bs : Nat) (uv : Value) (hs : tm.size = 104) (h0 : tm[0]? = some (.int .i64 i0)) (h1 : tm[1]? = some (.func (.func 127) #[] #[.pointer (some ⟨bx, 0, none⟩)])) (h2 : tm[2]? = some (.func (.func 129) #[] #[.pointer (some ⟨bo, 0, none⟩)]))
    (h3 : tm[3]? = some undef) (h4 : tm[4]? = some undef) (h5 : tm[5]? = some undef) (h6 : tm[6]? = some (.bool false)) (h7 : tm[7]? = some (.map (some mp))) (h8 : tm[8]? = some uv) (h9 : tm[9]? = some (.pointer (some ⟨bs, 0, none⟩))) (h96 : tm[96]? = some (.func (.func 136) #[] #[.pointer (some ⟨Bs, 0, none⟩)])) :
    ∃ u : Nat → Value, ({ tmps := tm, defers := d } : Act) = { tmps := #[.int .i64 i0, .func (.func 127) #[] #[.pointer (some ⟨bx, 0, none⟩)], .func (.func 129) #[] #[.pointer (some ⟨bo, 0, none⟩)], undef, undef, undef, .bool false, .map (some mp), uv, .pointer (some ⟨bs, 0, none⟩), u 10, u 11, u 12, u 13, u 14, u 15, u 16, u 17, u 18, u 19, u 20, u 21, u 22, u 23, u 24, u 25, u 26, u 27, u 28, u 29, u 30, u 31, u 32, u 33, u 34, u 35, u 36, u 37, u 38, u 39, u 40, u 41, u 42, u 43, u 44, u 45, u 46, u 47, u 48, u 49, u 50, u 51, u 52, u 53, u 54, u 55, u 56, u 57, u 58, u 59, u 60, u 61, u 62, u 63, u 64, u 65, u 66, u 67, u 68, u 69, u 70, u 71, u 72, u 73, u 74, u 75, u 76, u 77, u 78, u 79, u 80, u 81, u 82, u 83, u 84, u 85, u 86, u 87, u 88, u 89, u 90, u 91, u 92, u 93, u 94, u 95, .func (.func 136) #[] #[.pointer (some ⟨Bs, 0, none⟩)], u 97, u 98, u 99, u 100, u 101, u 102, u 103], defers := d } := by
  obtain ⟨u, e⟩ := frame104 tm _ _ _ _ _ _ _ _ _ _ hs h0 h1 h2 h3 h4 h5 h6 h7 h8 h9
  have e96 : u 96 = .func (.func 136) #[] #[.pointer (some ⟨Bs, 0, none⟩)] := by
    rw [e] at h96
    exact Option.some.inj h96
  exact ⟨u, by rw [e, e96]⟩
def dummyI (x : Nat × Int) : TaskI := ⟨false, x.2, .mk 0 0 []⟩
theorem kidTI_cells : ∀ {ids : List Int} {ks : List Tr}, ids.length = ks.length → (kidTI ids ks).map TaskI.cells = ids.map (fun i => [Value.int .i64 i, Value.bool false, Value.int .i64 0])
  | [], [], _ => rfl
  | i :: r, t :: s, h => by
    simp only [kidTI, List.map_cons, kidTI_cells (ids := r) (ks := s) (by simpa using h)]
    rfl
theorem downI_cells (ids : List Int) : ((downI ids 0).reverse.map dummyI).map TaskI.cells = ids.map (fun i => [Value.int .i64 i, Value.bool false, Value.int .i64 0]) := by
  apply List.ext_getElem?
  intro i
  by_cases hi : i < ids.length
  · have e1 : ids.length - 1 - (ids.length - 1 - i) = i := by omega
    simp [downI, hi, dummyI, TaskI.cells, TaskI.kl, e1]
  · rw [List.getElem?_eq_none (by simp [downI]; omega), List.getElem?_eq_none (by simp; omega)]
theorem flatI_map (l l' : List TaskI) (h : l.map TaskI.cells = l'.map TaskI.cells) : flatI l = flatI l' := by
  simp only [flatI, List.flatMap_def, h]
theorem wtsI_enter {i : Int} {ids : List Int} (t : Tr) (s : List TaskI) (hl : ids.length = t.kids.length) : wtsI (kidTI ids t.kids ++ ⟨true, i, t⟩ :: s) < wtsI (⟨false, i, t⟩ :: s) := by
  rw [wtsI_append, kidTI_wts hl]
  cases t with
  | mk op n kids => simp [wtsI, TaskI.wt, Tr.size, Tr.kids]; omega
theorem den_kids {ns : List Nd} (ho : Ord ns) {i : Int} {t : Tr} (hd : Den ns i t) (hw : t.well) : ∃ (j : Nat) (x : Nd), i = (j : Int) ∧ ns[j]? = some x ∧ Dens ns (kidsL x) t.kids ∧ (kidsL x).length ≤ 2 ∧ ∀ y ∈ kidsL x, y < i := by
  obtain ⟨op, n, ks⟩ := t
  obtain ⟨j, ids0, rfl, hj, _⟩ := id hd
  obtain ⟨ids, e1, e2, e3, e4⟩ := den_node ho hd hw
  obtain ⟨o', nn', ids', ks', f1, f2, f3, f4, f5⟩ := ord_node ho (List.getElem?_eq_some_iff.1 hj).1
  rw [e1] at f1
  have f1' : mkNd op n ids = mkNd o' nn' ids' := by simpa using f1
  have e : ids = ids' := by rw [← e3, f1', f4]
  refine ⟨j, mkNd op n ids, rfl, e1, by rw [e3]; exact e2, kidsL_length _, ?_⟩
  rw [e3, e]
  exact fun y hy => (f5 y hy).2
theorem NewInts.atI {w0 w : World} {a : Option Addr} {ks : List Int} (h : NewInts w0 w a ks) (tb : Nat) : ∃ nb, (nb = tb ∨ w0.heap.size ≤ nb) ∧ (nb = tb ∨ nb < w.heap.size) ∧ IntsAt w a nb ks := by
  cases ks with
  | nil => exact ⟨tb, .inl rfl, .inl rfl, fun j x hx => by simp at hx⟩
  | cons y r =>
    obtain ⟨b, rfl, h1, h2⟩ := h 0 y rfl
    refine ⟨b, .inr h1, .inr (lt_of_cell h2), fun j x hx => ?_⟩
    obtain ⟨b', e, _, h4⟩ := h j x hx
    cases e
    exact ⟨rfl, h4⟩
theorem gm_neI {w : World} {b : Nat} {m : Value → Option Value} (h : Gm isInt w b m) {a : Addr} {v : Value} (hc : w.cell? a = some v) : b ≠ a.block := by
  rintro rfl
  obtain ⟨es, clock, hb, _⟩ := h
  simp [World.cell?, hb] at hc
theorem info196 : (Tryd.prog.info? 196).map (fun i => (i.zero, i.size, i.bytes)) = some (some (.agg #[.int .i64 0, .bool false, .int .i64 0]), 3, 24) := by kernel_rfl

theorem start_mi {wE w0 : World} {bx bo L : Nat} {i0 : Int} {rt : Tr} (hE : Kept (fun _ => False) wE w0) (hbx : w0.cell? ⟨bx, 0, none⟩ = some (.pointer (some ⟨L, 0, none⟩))) (hbo : w0.cell? ⟨bo, 0, none⟩ = some (.slice none 0 0)) (hfo : w0.frozen? ⟨bo, 0, none⟩ = false) (lx : wE.heap.size ≤ bx) (lo : wE.heap.size ≤ bo) (hne : bx ≠ bo) :
    MI wE bx bo L w0.heap.size (w0.heap.size + 1 + 1) [⟨false, i0, rt⟩] [] [] (fun _ => none) (.slice (some ⟨w0.heap.size + 1, 0, none⟩) 1 1) (.slice none 0 0) (.slice none 0 0) []
      (((w0.alloc (.map #[] 0)).alloc (.cells #[.int .i64 i0, .bool false, .int .i64 0] 196)).alloc (.cells #[.slice (some ⟨w0.heap.size + 1, 0, none⟩) 1 1] 197)) := by
  have hk : Kept (fun _ => False) w0 (((w0.alloc (.map #[] 0)).alloc (.cells #[.int .i64 i0, .bool false, .int .i64 0] 196)).alloc (.cells #[.slice (some ⟨w0.heap.size + 1, 0, none⟩) 1 1] 197)) := (((Kept.refl _ _).alloc _).alloc _).alloc _
  have hb1 : (((w0.alloc (.map #[] 0)).alloc (.cells #[.int .i64 i0, .bool false, .int .i64 0] 196)).alloc (.cells #[.slice (some ⟨w0.heap.size + 1, 0, none⟩) 1 1] 197)).heap[w0.heap.size + 1]? = some (.cells #[.int .i64 i0, .bool false, .int .i64 0] 196 (0, 0)) := by
    rw [Below.heap_alloc _ _ _ (by simp)]
    have := (MapKept.heap_alloc (w0.alloc (.map #[] 0)) (.cells #[.int .i64 i0, .bool false, .int .i64 0] 196)).1
    simpa using this
  have hgm : Gm isInt (((w0.alloc (.map #[] 0)).alloc (.cells #[.int .i64 i0, .bool false, .int .i64 0] 196)).alloc (.cells #[.slice (some ⟨w0.heap.size + 1, 0, none⟩) 1 1] 197)) w0.heap.size (fun _ => none) := by
    have h1 : Gm isInt (w0.alloc (.map #[] 0)) w0.heap.size (fun _ => none) := Gm.made w0
    have k2 : Kept (fun _ => False) (w0.alloc (.map #[] 0)) (((w0.alloc (.map #[] 0)).alloc (.cells #[.int .i64 i0, .bool false, .int .i64 0] 196)).alloc (.cells #[.slice (some ⟨w0.heap.size + 1, 0, none⟩) 1 1] 197)) := ((Kept.refl _ _).alloc _).alloc _
    exact h1.of_block (k2.block _ (by simp) (fun f => f)) (fun _ hk => hk)
  have lX : bx < w0.heap.size := lt_of_cell hbx
  have lO : bo < w0.heap.size := lt_of_cell hbo
  have hE2 := hE.size
  have ir : ∀ k, inRow (.slice (some ⟨w0.heap.size + 1, 0, none⟩) 1 1) k → k = w0.heap.size + 1 := fun k e => Option.some.inj e
  have i0r : ∀ k, ¬ inRow (.slice none 0 0) k := fun k e => by simp [inRow, Value.ownBlock] at e
  exact {
    kE := hE.trans hk (fun _ _ f => f.elim)
    cbx := (hk.cell (p := ⟨bx, 0, none⟩) lX (fun f => f)).trans hbx
    cbs := by rw [World.cell?_alloc_at (hn := by simp)]; rfl
    fbs := by
      have hsz : ((w0.alloc (.map #[] 0)).alloc (.cells #[.int .i64 i0, .bool false, .int .i64 0] 196)).heap.size = w0.heap.size + 1 + 1 := by simp
      have hh := (MapKept.heap_alloc ((w0.alloc (.map #[] 0)).alloc (.cells #[.int .i64 i0, .bool false, .int .i64 0] 196)) (.cells #[.slice (some ⟨w0.heap.size + 1, 0, none⟩) 1 1] 197)).1
      rw [hsz] at hh
      unfold World.frozen?
      dsimp only
      rw [hh]
      rfl
    cbo := (hk.cell (p := ⟨bo, 0, none⟩) lO (fun f => f)).trans hbo
    fbo := (hk.frozen (p := ⟨bo, 0, none⟩) lO (fun f => f)).trans hfo
    srow := ⟨rfl, .inr ⟨w0.heap.size + 1, 1, _, rfl, by omega, hb1, by simp, by decide, rfl, rfl⟩⟩
    urow := World.ownsRow_nil _ _ _ _
    orow := World.ownsRow_nil _ _ _ _
    gm := hgm
    hb := ⟨lx, lo, by omega, hE2⟩
    n1 := ⟨hne, by omega, by omega⟩
    sx := ⟨fun e => by have := ir _ e; omega, fun e => by have := ir _ e; omega, fun e => by have := ir _ e; omega⟩
    ux := ⟨i0r _, i0r _, i0r _⟩
    ox := ⟨i0r _, i0r _, i0r _⟩
    uo := fun k e => absurd e (i0r _)
    mks := by simp }
/-- between two rounds of the walk -/
def Inv128 (wE : World) (ns : List Nd) (rt : Tr) (i0 : Int) (bx bo L mp bs : Nat) (n : Nat) (a : Act) (w : World) : Prop :=
  ∃ st nums od ts m sv uv ov ds, n = wtsI st ∧ GI ns rt st nums od ts m ∧ MI wE bx bo L mp bs st nums od m sv uv ov ds w ∧ ds.Nodup ∧
    ∃ u : Nat → Value, a = { tmps := #[.int .i64 i0, .func (.func 127) #[] #[.pointer (some ⟨bx, 0, none⟩)], .func (.func 129) #[] #[.pointer (some ⟨bo, 0, none⟩)], undef, undef, undef, .bool false, .map (some mp), uv, .pointer (some ⟨bs, 0, none⟩), u 10, u 11, u 12, u 13, u 14, u 15, u 16, u 17, u 18, u 19, u 20, u 21, u 22, u 23, u 24, u 25, u 26, u 27, u 28, u 29, u 30, u 31, u 32, u 33, u 34, u 35, u 36, u 37, u 38, u 39, u 40, u 41, u 42, u 43, u 44, u 45, u 46, u 47, u 48, u 49, u 50, u 51, u 52, u 53, u 54, u 55, u 56, u 57, u 58, u 59, u 60, u 61, u 62, u 63, u 64, u 65, u 66, u 67, u 68, u 69, u 70, u 71, u 72, u 73, u 74, u 75, u 76, u 77, u 78, u 79, u 80, u 81, u 82, u 83, u 84, u 85, u 86, u 87, u 88, u 89, u 90, u 91, u 92, u 93, u 94, u 95, u 96, u 97, u 98, u 99, u 100, u 101, u 102, u 103], defers := ds.map markOf }
/-- how the body may be left -/
def Q128 (R : Ending → World → Prop) : Exit → Act → World → Prop
  | .ret, a, w => LeavesInM Fence.wide 9 Tryd.prog Tryd.f128 a.tmps R a.defers .returning w
  | _, _, _ => False
/-- what the walk answers -/
def Post128 (wE : World) (ns : List Nd) (rt : Tr) (bo : Nat) (e : Ending) (w' : World) : Prop :=
  e = .returned (.bool true) ∧ Kept (fun _ => False) wE w' ∧ ∃ ov od, w'.cell? ⟨bo, 0, none⟩ = some ov ∧ w'.ownsRow wE.heap.size 3 1 ov od.length (od.map (Value.int .i64)) ∧ RelL ns od (visT rt []) ∧ od.length ≤ 2 * rt.size

set_option maxRecDepth 100000 in
set_option maxHeartbeats 4000000 in
theorem walk128 (wE w0 : World) (ns : List Nd) (rt : Tr) (i0 : Int) (bx bo L : Nat)
    (hE : Kept (fun _ => False) wE w0) (hbx : w0.cell? ⟨bx, 0, none⟩ = some (.pointer (some ⟨L, 0, none⟩))) (hbo : w0.cell? ⟨bo, 0, none⟩ = some (.slice none 0 0)) (hfo : w0.frozen? ⟨bo, 0, none⟩ = false) (lx : wE.heap.size ≤ bx) (lo : wE.heap.size ≤ bo) (hne : bx ≠ bo)
    (hL : LRead wE L ns) (ho : Ord ns) (hn : ns.Nodup) (hd : Den ns i0 rt) (hw : rt.well) (hsz : rt.size ≤ 268435456) :
    Calls Tryd.prog 128 #[.int .i64 i0, .func (.func 127) #[] #[.pointer (some ⟨bx, 0, none⟩)], .func (.func 129) #[] #[.pointer (some ⟨bo, 0, none⟩)]] w0 fun e w' => Post128 wE ns rt bo e w' := by
  have hmm := @run_makeMap Tryd.prog
  refine (callsIn_wide (n := 9)).1 (callsIn_of_wp_marks Tryd.func128 rfl trivial ?_ rfl)
  simp only [Tryd.ntmps128, List.size_toArray, List.length_cons, List.length_nil, Nat.reduceAdd, Nat.reduceSub, Array.replicate_succ, Array.replicate_zero, List.push_toArray, List.append_toArray, List.nil_append, List.cons_append]
  refine wpIn_wide.2 (wp_mono (Q := Q128 (fun e w' => Post128 wE ns rt bo e w')) ?_ (fun e a w h => by cases e <;> first | exact h | exact h.elim))
  go_wp2_with fail
  refine wp_loop_ghost (Inv128 wE ns rt i0 bx bo L w0.heap.size (w0.heap.size + 1 + 1)) (2 * rt.size) ?start ?round
  case start =>
    exact ⟨[⟨false, i0, rt⟩], [], [], [], fun _ => none, _, _, _, [], by simp [wtsI, TaskI.wt], GI.start hd hw, start_mi hE hbx hbo hfo lx lo hne, List.nodup_nil, act128 _ _ i0 bx bo _ _ _ rfl rfl rfl rfl rfl rfl rfl rfl rfl rfl rfl⟩
  case round =>
    clear hmm hbx hbo hfo hd hw
    have hE2 := hE.size
    clear hE
    rintro n a w ⟨st, nums, od, ts, m, sv, uv, ov, ds, rfl, hg, hm, hnd, u, rfl⟩
    generalize w0.heap.size + 1 + 1 = bs at *
    generalize w0.heap.size = mp at *
    cases st with
    | nil =>
      have hsv : ∃ sa sc, sv = .slice sa 0 sc := by
        rcases hm.srow.2 with ⟨rfl, _⟩ | ⟨g, cap, cur, rfl, _⟩
        · exact ⟨_, _, rfl⟩
        · exact ⟨_, _, rfl⟩
      obtain ⟨sa, sc, rfl⟩ := hsv
      have c1 := hm.cbs
      go_wp2
      refine leave_marks (v := .bool true) (fun w' => by simp [results, Tryd.results128, go_sem]) ds w hnd (fun D hD => (hm.mks D hD).2) (fun w' hk' => ?_)
      refine ⟨rfl, hm.kE.trans hk' (fun D hD hD2 => by have := (hm.mks D hD2).1; omega), ov, od, (hk'.cell (p := ⟨bo, 0, none⟩) (lt_of_cell hm.cbo) (fun hD => (hm.dsx hD).2.1 rfl)).trans hm.cbo, ownsRow_of_block hm.orow (fun k hk => hk'.block k (ownsRow_lt hm.orow hk).1 (fun hD => (hm.dsx hD).2.2.2.2.2.2 hk)), hg.done, by have := hg.b2; omega⟩
    | cons k s =>
      obtain ⟨g, c, rfl⟩ := ownsRow_form (n := s.length) hm.srow
      have hcl := hm.srow.cells (g := g) rfl
      have hfl : flatI (k :: s).reverse = flatI s.reverse ++ k.cells := by rw [List.reverse_cons, flatI_append]
      have hln : (flatI s.reverse).length = s.length * 3 := by rw [flatI_length, List.length_reverse]
      have t0 : w.cell? ⟨g, s.length * 3, none⟩ = some (.int .i64 k.id) := by
        have := hcl (s.length * 3) (.int .i64 k.id) (by rw [hfl, ← hln, List.getElem?_append_right (Nat.le_refl _)]; simp [TaskI.cells])
        rw [addr_add] at this
        exact this
      have t1 : w.cell? ⟨g, s.length * 3 + 1, none⟩ = some (.bool k.ent) := by
        have := hcl (s.length * 3 + 1) (.bool k.ent) (by rw [hfl, ← hln, List.getElem?_append_right (by omega)]; simp [TaskI.cells])
        rw [addr_add] at this
        exact this
      have t2 : w.cell? ⟨g, s.length * 3 + 2, none⟩ = some (.int .i64 (k.kl : Int)) := by
        have := hcl (s.length * 3 + 2) (.int .i64 (k.kl : Int)) (by rw [hfl, ← hln, List.getElem?_append_right (by omega)]; simp [TaskI.cells])
        rw [addr_add] at this
        exact this
      clear hcl hfl hln
      have hcap : s.length + 1 ≤ c := (ownsRow_cap (n := s.length + 1) hm.srow).1
      have hcap2 : c ≤ 9223372036854775807 := (ownsRow_cap (n := s.length + 1) hm.srow).2
      have hb1 := hg.b1
      have hb2 := hg.b2
      have hls := length_le_wtsI (k :: s)
      simp only [List.length_cons] at hls
      have hol : od.length ≤ 1073741824 := by omega
      have c1 : w.cell? ⟨bs, 0, none⟩ = some (.slice (some ⟨g, 0, none⟩) (s.length + 1) c) := hm.cbs
      have c2 := hm.fbs
      have lg : g < w.heap.size := lt_of_cell t0
      have lb : bs < w.heap.size := lt_of_cell c1
      have hgb : g ≠ bs := fun e => hm.sx.2.2 (by rw [← e]; rfl)
      have htb : ¬ (w.heap.size = bo ∨ some w.heap.size = ov.ownBlock) := by
        rintro (e | e)
        · have := lt_of_cell hm.cbo; simp only at this; omega
        · have := (ownsRow_lt hm.orow e).1; omega
      obtain ⟨ent, i, t⟩ := k
      cases ent with
      | true =>
        obtain ⟨hdt, hwt⟩ := hg.den _ (.head _)
        dsimp only at hdt hwt
        have hk2 : t.kids.length ≤ 2 := by obtain ⟨op, n, ks⟩ := t; exact wellN_le hwt.1
        have hkn : t.kids.length ≤ nums.length := by
          have := hg.nok
          simp only [NumsI] at this
          rw [if_pos trivial] at this
          exact this.1
        obtain ⟨pre, ids, rfl, hil⟩ : ∃ pre ids, nums = pre ++ ids ∧ ids.length = t.kids.length := ⟨nums.take (nums.length - t.kids.length), nums.drop (nums.length - t.kids.length), (List.take_append_drop _ _).symm, by rw [List.length_drop]; omega⟩
        have hstep : ∀ m', m' (.int .i64 i) = some (.int .i64 i) → (∀ k, k ≠ .int .i64 i → m' k = m k) → GI ns rt s (pre ++ [i]) (od ++ [i]) (ts ++ [t]) m' := fun m' h1 h2 => by
          have := (hg.leave h1 h2).2
          rwa [← hil, List.length_append, Nat.add_sub_cancel, List.take_left' rfl] at this
        have ekl : TaskI.kl ⟨true, i, t⟩ = ids.length := hil.symm
        rw [ekl] at t2
        have hm1 := (hm.pop).keep0 ((Kept.refl _ _).alloc (.cells #[.int .i64 i, .bool true, .int .i64 (ids.length : Int)] 196))
        have HS : Hid _ := hstep
        have hids3 : ids.length ≤ 2 := by omega
        have hpl : pre.length ≤ 536870912 := by rw [List.length_append] at hb1; omega
        clear hg hstep hm hil ekl hdt hwt hk2 hkn
        dsimp only at t0 t1 t2
        go_upto_region 8 with fail
        clear t0 t1 t2 c1 c2

        have q0 : ((w.setCell ⟨bs, 0, none⟩ (.slice (some ⟨g, 0, none⟩) s.length c)).alloc (.cells #[.int .i64 i, .bool true, .int .i64 (ids.length : Int)] 196)).cell? ⟨w.heap.size, 0, none⟩ = some (.int .i64 i) := by rw [World.cell?_alloc_at (hn := by simp [World.setCell])]; rfl
        have q2 : ((w.setCell ⟨bs, 0, none⟩ (.slice (some ⟨g, 0, none⟩) s.length c)).alloc (.cells #[.int .i64 i, .bool true, .int .i64 (ids.length : Int)] 196)).cell? ⟨w.heap.size, 2, none⟩ = some (.int .i64 (ids.length : Int)) := by rw [World.cell?_alloc_at (hn := by simp [World.setCell])]; rfl
        have qs : w.heap.size < ((w.setCell ⟨bs, 0, none⟩ (.slice (some ⟨g, 0, none⟩) s.length c)).alloc (.cells #[.int .i64 i, .bool true, .int .i64 (ids.length : Int)] 196)).heap.size := by simp
        generalize ((w.setCell ⟨bs, 0, none⟩ (.slice (some ⟨g, 0, none⟩) s.length c)).alloc (.cells #[.int .i64 i, .bool true, .int .i64 (ids.length : Int)] 196)) = W1 at *
        generalize w.heap.size = tb at *
        obtain ⟨i3, hi3, hz30, hz31, hz32⟩ := info_parts info3
        rcases hm1.urow.2 with ⟨rfl, hz⟩ | ⟨ug, uc, cur, rfl, r1, r2, r3, r4, r5, r6⟩
        · obtain rfl : pre = [] := List.eq_nil_of_length_eq_zero (by simp at hz; simp [hz.1])
          obtain rfl : ids = [] := List.eq_nil_of_length_eq_zero (by simpa using hz)
          simp only [List.length_nil] at q2
          clear hz
          go_wp2
          have hmd := hm1.keep0 ((Kept.refl _ _).drew)
          go_region_with (go_at_call 129; refine (order129 _ wE.heap.size bo ov od i _ _ _ hmd.cbo hmd.fbo hmd.orow hmd.kE.size (fun e => hmd.ox.2.1 e.symm) hol).mono ?_; rintro e w' ⟨rfl, ov', y1, y2, y3, y4, y5, y6⟩)
          have hm3 := hmd.order y1 y2 y3 y4 y5
          have c3 : w'.cell? ⟨tb, 0, none⟩ = some (.int .i64 i) := (y4.cell (p := ⟨tb, 0, none⟩) qs htb).trans q0
          have gm3 := hm3.gm
          have hur := hm3.urow
          clear y1 y2 y3 y4 y5 y6 q0 q2 hmd hm1
          have hne3 : ∀ k, some k = (.slice none 0 0 : Value).ownBlock → some k ≠ some mp := by
            intro k hk e
            obtain ⟨es, clock, hb, _⟩ := gm3
            exact row_ne hur hb rfl (hk.symm.trans e)
          go_wp2_with
            (first
              | (at_mapUpdate; go_must (refine wpList_store_gm2 rfl _ _ _ 194 rfl 3 intKey Tryd.underlying194 mp m rfl gm3 (.int .i64 i) (.int .i64 i) rfl rfl ⟨i, rfl⟩ ?_); intro w4 m4 g1 g2 g3 g4 g5; have hm4 := hm3.store g1 g4; have hur4 := ownsRow_of_block hur (fun k hk => g4.block k (ownsRow_lt hur hk).1 (hne3 k hk)); have G2 : Hid _ := g2; have G3 : Hid _ := g3; clear hm3 gm3 c3 hur hne3 g5 g2 g3)
              | (at_builtin; go_must (refine wpList_append_own_at _ rfl _ _ 46 rfl wE.heap.size 3 i3 (.int .i64 0) 1 8 Tryd.underlying46 hi3 hz30 hz31 hz32 rfl (by decide) _ 0 _ rfl (hur4.alloc _) ⟨w4.heap.size, 0, none⟩ 1 1 [.int .i64 i] rfl rfl (int1 _ _ _) (by intro y hy; simp at hy; subst hy; rfl) (by unfold maxLen; omega) (by omega) (by simp; have := hm4.kE.size; omega) ?_); intro uv5 w5 hown5 hgrow5 hnil5 hloc5))
          refine ⟨wtsI s, by simp [wtsI, TaskI.wt], s, ([] : List Int) ++ [i], od ++ [i], ts ++ [t], m4, .slice (some ⟨g, 0, none⟩) s.length c, uv5, ov', ds, rfl, HS.out m4 G2.out G3.out, ?_, hnd, ?_⟩
          · refine (hm4.keep0 ((Kept.refl _ _).alloc _)).num (vv := .slice none 0 0) rfl ?_ hgrow5 hloc5
            simpa using hown5
          · exact act128 _ _ i0 bx bo _ bs uv5 rfl rfl rfl rfl rfl rfl rfl rfl rfl rfl rfl
        · unfold maxLen at r4
          clear r5 r6 r2
          match ids, hids3 with
          | [], _ =>
            simp only [List.append_nil, List.length_nil] at r3 q2 ⊢
            by_cases p2 : uc = pre.length
            · subst p2
              go_wp2
              have hmd := hm1.keep0 ((Kept.refl _ _).drew)
              go_region_with (go_at_call 129; refine (order129 _ wE.heap.size bo ov od i _ _ _ hmd.cbo hmd.fbo hmd.orow hmd.kE.size (fun e => hmd.ox.2.1 e.symm) hol).mono ?_; rintro e w' ⟨rfl, ov', y1, y2, y3, y4, y5, y6⟩)
              have hm3 := hmd.order y1 y2 y3 y4 y5
              have c3 : w'.cell? ⟨tb, 0, none⟩ = some (.int .i64 i) := (y4.cell (p := ⟨tb, 0, none⟩) qs htb).trans q0
              have gm3 := hm3.gm
              have hur : w'.ownsRow wE.heap.size 3 1 (.slice (some ⟨ug, 0, none⟩) pre.length pre.length) pre.length (pre.map (Value.int .i64)) := by
                have := hm3.urow
                rw [List.append_nil] at this
                exact this
              clear y1 y2 y3 y4 y5 y6 q0 q2 hmd hm1
              have hne3 : ∀ k, some k = (.slice (some ⟨ug, 0, none⟩) pre.length pre.length : Value).ownBlock → some k ≠ some mp := by
                intro k hk e
                obtain ⟨es, clock, hb, _⟩ := gm3
                exact row_ne hur hb rfl (hk.symm.trans e)
              go_wp2_with
                (first
                  | (at_mapUpdate; go_must (refine wpList_store_gm2 rfl _ _ _ 194 rfl 3 intKey Tryd.underlying194 mp m rfl gm3 (.int .i64 i) (.int .i64 i) rfl rfl ⟨i, rfl⟩ ?_); intro w4 m4 g1 g2 g3 g4 g5; have hm4 := hm3.store g1 g4; have hur4 := ownsRow_of_block hur (fun k hk => g4.block k (ownsRow_lt hur hk).1 (hne3 k hk)); have G2 : Hid _ := g2; have G3 : Hid _ := g3; clear hm3 gm3 c3 hur hne3 g5 g2 g3)
                  | (at_builtin; go_must (refine wpList_append_own_at _ rfl _ _ 46 rfl wE.heap.size 3 i3 (.int .i64 0) 1 8 Tryd.underlying46 hi3 hz30 hz31 hz32 rfl (by decide) _ pre.length _ rfl (hur4.alloc _) ⟨w4.heap.size, 0, none⟩ 1 1 [.int .i64 i] rfl rfl (int1 _ _ _) (by intro y hy; simp at hy; subst hy; rfl) (by unfold maxLen; omega) (by omega) (by simp; have := hm4.kE.size; omega) ?_); intro uv5 w5 hown5 hgrow5 hnil5 hloc5))
              refine ⟨wtsI s, by simp [wtsI, TaskI.wt], s, pre ++ [i], od ++ [i], ts ++ [t], m4, .slice (some ⟨g, 0, none⟩) s.length c, uv5, ov', ds, rfl, HS.out m4 G2.out G3.out, ?_, hnd, ?_⟩
              · refine (hm4.keep0 ((Kept.refl _ _).alloc _)).num (vv := .slice (some ⟨ug, 0, none⟩) pre.length pre.length) rfl ?_ hgrow5 hloc5
                simpa using hown5
              · exact act128 _ _ i0 bx bo _ bs uv5 rfl rfl rfl rfl rfl rfl rfl rfl rfl rfl rfl
            · go_wp2
              have hmd := hm1.keep0 ((Kept.refl _ _).drew)
              go_region_with (go_at_call 129; refine (order129 _ wE.heap.size bo ov od i _ _ _ hmd.cbo hmd.fbo hmd.orow hmd.kE.size (fun e => hmd.ox.2.1 e.symm) hol).mono ?_; rintro e w' ⟨rfl, ov', y1, y2, y3, y4, y5, y6⟩)
              have hm3 := hmd.order y1 y2 y3 y4 y5
              have c3 : w'.cell? ⟨tb, 0, none⟩ = some (.int .i64 i) := (y4.cell (p := ⟨tb, 0, none⟩) qs htb).trans q0
              have gm3 := hm3.gm
              have hur : w'.ownsRow wE.heap.size 3 1 (.slice (some ⟨ug, 0, none⟩) pre.length uc) pre.length (pre.map (Value.int .i64)) := by
                have := hm3.urow
                rw [List.append_nil] at this
                exact this
              clear y1 y2 y3 y4 y5 y6 q0 q2 hmd hm1
              have hne3 : ∀ k, some k = (.slice (some ⟨ug, 0, none⟩) pre.length uc : Value).ownBlock → some k ≠ some mp := by
                intro k hk e
                obtain ⟨es, clock, hb, _⟩ := gm3
                exact row_ne hur hb rfl (hk.symm.trans e)
              go_wp2_with
                (first
                  | (at_mapUpdate; go_must (refine wpList_store_gm2 rfl _ _ _ 194 rfl 3 intKey Tryd.underlying194 mp m rfl gm3 (.int .i64 i) (.int .i64 i) rfl rfl ⟨i, rfl⟩ ?_); intro w4 m4 g1 g2 g3 g4 g5; have hm4 := hm3.store g1 g4; have hur4 := ownsRow_of_block hur (fun k hk => g4.block k (ownsRow_lt hur hk).1 (hne3 k hk)); have G2 : Hid _ := g2; have G3 : Hid _ := g3; clear hm3 gm3 c3 hur hne3 g5 g2 g3)
                  | (at_builtin; go_must (refine wpList_append_own_at _ rfl _ _ 46 rfl wE.heap.size 3 i3 (.int .i64 0) 1 8 Tryd.underlying46 hi3 hz30 hz31 hz32 rfl (by decide) _ pre.length _ rfl (hur4.alloc _) ⟨w4.heap.size, 0, none⟩ 1 1 [.int .i64 i] rfl rfl (int1 _ _ _) (by intro y hy; simp at hy; subst hy; rfl) (by unfold maxLen; omega) (by omega) (by simp; have := hm4.kE.size; omega) ?_); intro uv5 w5 hown5 hgrow5 hnil5 hloc5))
              refine ⟨wtsI s, by simp [wtsI, TaskI.wt], s, pre ++ [i], od ++ [i], ts ++ [t], m4, .slice (some ⟨g, 0, none⟩) s.length c, uv5, ov', ds, rfl, HS.out m4 G2.out G3.out, ?_, hnd, ?_⟩
              · refine (hm4.keep0 ((Kept.refl _ _).alloc _)).num (vv := .slice (some ⟨ug, 0, none⟩) pre.length uc) rfl ?_ hgrow5 hloc5
                simpa using hown5
              · exact act128 _ _ i0 bx bo _ bs uv5 rfl rfl rfl rfl rfl rfl rfl rfl rfl rfl rfl
          | [x], _ =>
            simp only [List.length_append, List.length_cons, List.length_nil, Nat.zero_add] at r3 q2 ⊢
            have p1 : (pre.length : Int) ≤ (pre.length : Int) + 1 := by omega
            have p2 : ¬ uc = pre.length := by omega
            go_wp2
            have hmd := hm1.keep0 ((Kept.refl _ _).drew)
            go_region_with (go_at_call 129; refine (order129 _ wE.heap.size bo ov od i _ _ _ hmd.cbo hmd.fbo hmd.orow hmd.kE.size (fun e => hmd.ox.2.1 e.symm) hol).mono ?_; rintro e w' ⟨rfl, ov', y1, y2, y3, y4, y5, y6⟩)
            have hm3 := hmd.order y1 y2 y3 y4 y5
            have c3 : w'.cell? ⟨tb, 0, none⟩ = some (.int .i64 i) := (y4.cell (p := ⟨tb, 0, none⟩) qs htb).trans q0
            have gm3 := hm3.gm
            have hur := ownsRow_take (n' := pre.length) hm3.urow (by simp)
            have htk : (List.map (Value.int .i64) (pre ++ [x])).take (pre.length * 1) = pre.map (Value.int .i64) := by simp
            rw [htk] at hur
            clear htk
            clear y1 y2 y3 y4 y5 y6 q0 q2 hmd hm1
            have hne3 : ∀ k, some k = (.slice (some ⟨ug, 0, none⟩) pre.length uc : Value).ownBlock → some k ≠ some mp := by
              intro k hk e
              obtain ⟨es, clock, hb, _⟩ := gm3
              exact row_ne hur hb rfl (hk.symm.trans e)
            go_wp2_with
              (first
                | (at_mapUpdate; go_must (refine wpList_store_gm2 rfl _ _ _ 194 rfl 3 intKey Tryd.underlying194 mp m rfl gm3 (.int .i64 i) (.int .i64 i) rfl rfl ⟨i, rfl⟩ ?_); intro w4 m4 g1 g2 g3 g4 g5; have hm4 := hm3.store g1 g4; have hur4 := ownsRow_of_block hur (fun k hk => g4.block k (ownsRow_lt hur hk).1 (hne3 k hk)); have G2 : Hid _ := g2; have G3 : Hid _ := g3; clear hm3 gm3 c3 hur hne3 g5 g2 g3)
                | (at_builtin; go_must (refine wpList_append_own_at _ rfl _ _ 46 rfl wE.heap.size 3 i3 (.int .i64 0) 1 8 Tryd.underlying46 hi3 hz30 hz31 hz32 rfl (by decide) _ pre.length _ rfl (hur4.alloc _) ⟨w4.heap.size, 0, none⟩ 1 1 [.int .i64 i] rfl rfl (int1 _ _ _) (by intro y hy; simp at hy; subst hy; rfl) (by unfold maxLen; omega) (by omega) (by simp; have := hm4.kE.size; omega) ?_); intro uv5 w5 hown5 hgrow5 hnil5 hloc5))
            refine ⟨wtsI s, by simp [wtsI, TaskI.wt], s, pre ++ [i], od ++ [i], ts ++ [t], m4, .slice (some ⟨g, 0, none⟩) s.length c, uv5, ov', ds, rfl, HS.out m4 G2.out G3.out, ?_, hnd, ?_⟩
            · refine (hm4.keep0 ((Kept.refl _ _).alloc _)).num (vv := .slice (some ⟨ug, 0, none⟩) pre.length uc) rfl ?_ hgrow5 hloc5
              simpa using hown5
            · exact act128 _ _ i0 bx bo _ bs uv5 rfl rfl rfl rfl rfl rfl rfl rfl rfl rfl rfl
          | [x, y], _ =>
            simp only [List.length_append, List.length_cons, List.length_nil, Nat.zero_add, Nat.reduceAdd] at r3 q2 ⊢
            have p1 : (pre.length : Int) ≤ (pre.length : Int) + 2 := by omega
            have p2 : ¬ uc = pre.length := by omega
            go_wp2
            have hmd := hm1.keep0 ((Kept.refl _ _).drew)
            go_region_with (go_at_call 129; refine (order129 _ wE.heap.size bo ov od i _ _ _ hmd.cbo hmd.fbo hmd.orow hmd.kE.size (fun e => hmd.ox.2.1 e.symm) hol).mono ?_; rintro e w' ⟨rfl, ov', y1, y2, y3, y4, y5, y6⟩)
            have hm3 := hmd.order y1 y2 y3 y4 y5
            have c3 : w'.cell? ⟨tb, 0, none⟩ = some (.int .i64 i) := (y4.cell (p := ⟨tb, 0, none⟩) qs htb).trans q0
            have gm3 := hm3.gm
            have hur := ownsRow_take (n' := pre.length) hm3.urow (by simp)
            have htk : (List.map (Value.int .i64) (pre ++ [x, y])).take (pre.length * 1) = pre.map (Value.int .i64) := by simp
            rw [htk] at hur
            clear htk
            clear y1 y2 y3 y4 y5 y6 q0 q2 hmd hm1
            have hne3 : ∀ k, some k = (.slice (some ⟨ug, 0, none⟩) pre.length uc : Value).ownBlock → some k ≠ some mp := by
              intro k hk e
              obtain ⟨es, clock, hb, _⟩ := gm3
              exact row_ne hur hb rfl (hk.symm.trans e)
            go_wp2_with
              (first
                | (at_mapUpdate; go_must (refine wpList_store_gm2 rfl _ _ _ 194 rfl 3 intKey Tryd.underlying194 mp m rfl gm3 (.int .i64 i) (.int .i64 i) rfl rfl ⟨i, rfl⟩ ?_); intro w4 m4 g1 g2 g3 g4 g5; have hm4 := hm3.store g1 g4; have hur4 := ownsRow_of_block hur (fun k hk => g4.block k (ownsRow_lt hur hk).1 (hne3 k hk)); have G2 : Hid _ := g2; have G3 : Hid _ := g3; clear hm3 gm3 c3 hur hne3 g5 g2 g3)
                | (at_builtin; go_must (refine wpList_append_own_at _ rfl _ _ 46 rfl wE.heap.size 3 i3 (.int .i64 0) 1 8 Tryd.underlying46 hi3 hz30 hz31 hz32 rfl (by decide) _ pre.length _ rfl (hur4.alloc _) ⟨w4.heap.size, 0, none⟩ 1 1 [.int .i64 i] rfl rfl (int1 _ _ _) (by intro y hy; simp at hy; subst hy; rfl) (by unfold maxLen; omega) (by omega) (by simp; have := hm4.kE.size; omega) ?_); intro uv5 w5 hown5 hgrow5 hnil5 hloc5))
            refine ⟨wtsI s, by simp [wtsI, TaskI.wt], s, pre ++ [i], od ++ [i], ts ++ [t], m4, .slice (some ⟨g, 0, none⟩) s.length c, uv5, ov', ds, rfl, HS.out m4 G2.out G3.out, ?_, hnd, ?_⟩
            · refine (hm4.keep0 ((Kept.refl _ _).alloc _)).num (vv := .slice (some ⟨ug, 0, none⟩) pre.length uc) rfl ?_ hgrow5 hloc5
              simpa using hown5
            · exact act128 _ _ i0 bx bo _ bs uv5 rfl rfl rfl rfl rfl rfl rfl rfl rfl rfl rfl
      | false =>
        obtain ⟨hdt, hwt⟩ := hg.den _ (.head _)
        dsimp only at hdt hwt
        have ekl : TaskI.kl ⟨false, i, t⟩ = 0 := rfl
        rw [ekl] at t2
        have hm1 := (hm.pop).keep0 ((Kept.refl _ _).alloc (.cells #[.int .i64 i, .bool false, .int .i64 0] 196))
        have HG : Hid (GI ns rt (⟨false, i, t⟩ :: s) nums od ts m) := hg
        have hgt : g < w.heap.size ∧ bs < w.heap.size ∧ bx < w.heap.size ∧ bo < w.heap.size := ⟨lg, lb, lt_of_cell hm.cbx, lt_of_cell hm.cbo⟩
        clear hg hm ekl
        dsimp only at t0 t1 t2
        go_upto_region 12 with fail
        clear t0 t1 t2 c1 c2
        have q0 : ((w.setCell ⟨bs, 0, none⟩ (.slice (some ⟨g, 0, none⟩) s.length c)).alloc (.cells #[.int .i64 i, .bool false, .int .i64 0] 196)).cell? ⟨w.heap.size, 0, none⟩ = some (.int .i64 i) := by rw [World.cell?_alloc_at (hn := by simp [World.setCell])]; rfl
        have qs : w.heap.size < ((w.setCell ⟨bs, 0, none⟩ (.slice (some ⟨g, 0, none⟩) s.length c)).alloc (.cells #[.int .i64 i, .bool false, .int .i64 0] 196)).heap.size := by simp
        generalize ((w.setCell ⟨bs, 0, none⟩ (.slice (some ⟨g, 0, none⟩) s.length c)).alloc (.cells #[.int .i64 i, .bool false, .int .i64 0] 196)) = W1 at *
        generalize w.heap.size = tb at *
        obtain ⟨i3, hi3, hz30, hz31, hz32⟩ := info_parts info3
        have gm1 := hm1.gm
        have hul := hm1.urow
        cases hmk : m (.int .i64 i) with
        | some x =>
          obtain ⟨rfl, hi0, hgs⟩ := GI.hit hn HG.out hmk
          have hi1 : (i == -1) = false := by simp; omega
          have HGS : Hid _ := hgs
          clear hgs HG
          go_wp2_with
            (first
              | (at_lookup; go_must (refine wpList_look_gm2 rfl _ _ 194 rfl 3 intKey Tryd.underlying194 (.int .i64 0) (zero3 _) mp m rfl gm1 (.int .i64 i) rfl ⟨i, rfl⟩ ?_); rw [hmk])
              | (at_builtin; go_must (refine wpList_append_own_at _ rfl _ _ 46 rfl wE.heap.size 3 i3 (.int .i64 0) 1 8 Tryd.underlying46 hi3 hz30 hz31 hz32 rfl (by decide) _ nums.length _ rfl (hul.alloc _) ⟨W1.heap.size, 0, none⟩ 1 1 [.int .i64 i] rfl rfl (int1 _ _ _) (by intro y hy; simp at hy; subst hy; rfl) (by unfold maxLen; omega) (by omega) (by simp; have := hm1.kE.size; omega) ?_); intro uv5 w5 hown5 hgrow5 hnil5 hloc5))
          refine ⟨wtsI s, by have := Tr.size_pos t; simp [wtsI, TaskI.wt]; omega, s, nums ++ [i], od, ts, m, .slice (some ⟨g, 0, none⟩) s.length c, uv5, ov, ds, rfl, HGS.out, ?_, hnd, ?_⟩
          · refine (hm1.keep0 ((Kept.refl _ _).alloc _)).num (vv := uv) rfl ?_ hgrow5 hloc5
            simpa using hown5
          · exact act128 _ _ i0 bx bo _ bs uv5 rfl rfl rfl rfl rfl rfl rfl rfl rfl rfl rfl
        | none =>
          obtain ⟨j, x, rfl, hjx, hdk, hkl2, hlt⟩ := den_kids ho hdt hwt
          have hlen := hdk.length
          have ec : TaskI.cells ⟨true, (j : Int), t⟩ = [.int .i64 (j : Int), .bool true, .int .i64 ((kidsL x).length : Int)] := by simp [TaskI.cells, TaskI.kl, hlen]
          have hLR := hL.kept hm1.kE
          have cbx1 := hm1.cbx
          obtain ⟨i8, hi8, hz80, hz81, hz82⟩ := info_parts info196
          have HDK : Hid _ := hdk
          have HLT : Hid _ := hlt
          have HL : Hid _ := hlen
          have HEC : Hid _ := ec
          have HMK : Hid (m (.int .i64 (j : Int)) = none) := hmk
          clear hdt hwt hdk hlt hlen ec
          go_wp2_with
            (first
              | (at_lookup; go_must (refine wpList_look_gm2 rfl _ _ 194 rfl 3 intKey Tryd.underlying194 (.int .i64 0) (zero3 _) mp m rfl gm1 (.int .i64 (j : Int)) rfl ⟨j, rfl⟩ ?_); rw [hmk])
              | (go_at_call 127; go_must (refine (kids127 _ L bx j ns x cbx1 hLR hjx).mono ?_); rintro e w2 ⟨a, ac, rfl, hNI, hk2⟩; obtain ⟨nb, hnb, hnb2, hP2⟩ := hNI.atI tb; have hm2 := hm1.keep0 hk2; have gm2 := hm2.gm; have q2 := (hk2.cell (p := ⟨tb, 0, none⟩) qs (fun f => f)).trans q0; clear gm1 q0 hmk cbx1 hLR hjx hNI)
              | (at_mapUpdate; go_must (refine wpList_store_gm2 rfl _ _ _ 194 rfl 3 intKey Tryd.underlying194 mp m rfl gm2 (.int .i64 (j : Int)) (.int .i64 (-1)) rfl rfl ⟨j, rfl⟩ ?_); intro w3 m3 g1 g2 g3 g4 g5; have hm3 := hm2.store g1 g4; have q3 := (World.cell?_of_block (w := w2) (a := ⟨tb, 0, none⟩) (g4.block tb (lt_of_cell q2) (fun e => gm_neI gm2 q2 (Option.some.inj e).symm))).trans q2; have c3 := hm3.cbs; have G2 : Hid _ := g2; have G3 : Hid _ := g3; have hsr := hm3.srow; have hP3 : IntsAt w3 a nb (kidsL x) := (fun j' x' hj => ⟨(hP2 j' x' hj).1, (World.cell?_of_block (w := w2) (a := ⟨nb, j', none⟩) (g4.block nb (lt_of_cell (hP2 j' x' hj).2) (fun e => gm_neI gm2 (hP2 j' x' hj).2 (Option.some.inj e).symm))).trans (hP2 j' x' hj).2⟩); have G5 : Hid _ := g5; clear gm2 q2 g2 g3 g5 hP2)
              | (at_builtin; go_must (refine wpList_append_own_at _ rfl _ _ 197 rfl wE.heap.size 196 i8 _ 3 24 Tryd.underlying197 hi8 hz80 hz81 hz82 rfl (by decide) (.slice (some ⟨g, 0, none⟩) s.length c) s.length _ rfl (hsr.alloc _) ⟨w3.heap.size, 0, none⟩ 1 1 [.int .i64 (j : Int), .bool true, .int .i64 ((kidsL x).length : Int)] rfl rfl (three_cells _ _ _ _ _) (by intro y hy; simp at hy; rcases hy with rfl | rfl | rfl <;> rfl) (by unfold maxLen; omega) (by omega) (by simp; have := hm3.kE.size; omega) ?_); intro sv5 w5 hown5 hgrow5 hnil5 hloc5; obtain ⟨g5, c5, rfl⟩ := ownsRow_form hown5; have hm5 := (hm3.keep0 ((Kept.refl _ _).alloc _)).push (k := ⟨true, (j : Int), t⟩) (by rw [HEC.out]; exact hown5) hgrow5 hloc5; have e5 := hm5.cbs; have k5 : Kept (fun k => inRow (.slice (some ⟨g, 0, none⟩) s.length c) k) w3 w5 := ((Kept.refl _ _).alloc _).grown hgrow5 (fun k _ e => e); have b5 := (k5.cell (p := ⟨bs, 0, none⟩) (lt_of_cell c3) hm3.sx.2.2).trans c3; have a5 := (k5.frozen (p := ⟨bs, 0, none⟩) (lt_of_cell c3) hm3.sx.2.2).trans hm3.fbs; clear c3 q3 hsr hnil5)
              | (go_at_call 134; go_must (refine (back134 _ _ _ _).mono ?_); rintro e w6 ⟨rfl, rfl⟩))
          have hm6 := hm5.keep0 ((Kept.refl _ _).alloc (.cells #[.slice a (kidsL x).length ac] 46))
          have sz3 : w2.heap.size ≤ w3.heap.size := g4.size
          have sz5 : w3.heap.size + 1 ≤ w5.heap.size := by have := hgrow5.size; simpa using this
          have hsW := hk2.size
          have hgg : g5 = g ∨ g5 = w3.heap.size + 1 := by
            rcases hloc5 with e | e
            · exact .inl (Option.some.inj e)
            · right
              have := Option.some.inj e
              simpa using this
          have hnb6 : nb < w2.heap.size := by omega
          have hbsnb : bs ≠ nb ∧ g ≠ nb := by omega
          have hP6 : IntsAt ((w5.setCell ⟨bs, 0, none⟩ (.slice (some ⟨g5, 0, none⟩) (s.length + 1) c5)).alloc (.cells #[.slice a (kidsL x).length ac] 46)) a nb (kidsL x) := by
            intro j' x' hj
            refine ⟨(hP3 j' x' hj).1, ?_⟩
            rw [World.cell?_alloc_past _ _ _ (by simp [World.setCell]; omega), World.cell?_setCell_other _ _ _ _ (by first | (simp; done) | (simp; omega))]
            exact (k5.cell (p := ⟨nb, j', none⟩) (by simp; omega) (fun e => by have e' : nb = g := Option.some.inj e; omega)).trans (hP3 j' x' hj).2
          have hB6 : ((w5.setCell ⟨bs, 0, none⟩ (.slice (some ⟨g5, 0, none⟩) (s.length + 1) c5)).alloc (.cells #[.slice a (kidsL x).length ac] 46)).cell? ⟨w5.heap.size, 0, none⟩ = some (.slice a (kidsL x).length ac) := by rw [World.cell?_alloc_at (hn := by simp [World.setCell])]; rfl
          have hs6 : ((w5.setCell ⟨bs, 0, none⟩ (.slice (some ⟨g5, 0, none⟩) (s.length + 1) c5)).alloc (.cells #[.slice a (kidsL x).length ac] 46)).heap.size = w5.heap.size + 1 := by simp [World.setCell]
          have hsv6 : g5 ≠ nb ∧ g5 < w5.heap.size := ⟨by omega, (ownsRow_lt hown5 (k := g5) rfl).1⟩
          clear e5 b5 a5 hown5 hgrow5 hloc5 hP3 k5 hm3 hm2 hk2 hm1
          generalize ((w5.setCell ⟨bs, 0, none⟩ (.slice (some ⟨g5, 0, none⟩) (s.length + 1) c5)).alloc (.cells #[.slice a (kidsL x).length ac] 46)) = W6 at *
          have lb6 : bs < w5.heap.size := by omega
          have lx6 : bx < w5.heap.size ∧ bo < w5.heap.size := by omega
          have hnb7 : nb < w5.heap.size := by omega
          generalize w5.heap.size = Bs at *
          refine wp_act (act128k _ _ i0 bx bo _ bs Bs uv rfl rfl rfl rfl rfl rfl rfl rfl rfl rfl rfl rfl) (fun u2 => ?_)
          refine (wpIn_wide (n := 9)).1 ?_
          have hsq : SeqStopsK Fence.wide (9 - 1) Tryd.prog 136 #[.pointer (some ⟨Bs, 0, none⟩)] (fun x : Nat × Int => #[.int .i64 (x.1 : Int), .int .i64 x.2]) (Two Bs nb) (fun ys => ys = downI (kidsL x) 0) (fun _ => True) (kidsL x).length W6 := by
            intro l J Jx W hW _ _ hY hJ0
            refine back136 Fence.wide (9 - 1) trivial rfl (by decide) l Bs nb a ac (kidsL x) hkl2 J Jx hY W ((hW.cell (p := ⟨Bs, 0, none⟩) (by simp; omega)).trans hB6) (fun j' x' hj => ⟨(hP6 j' x' hj).1, (hW.cell (p := ⟨nb, j', none⟩) (by simp; omega)).trans (hP6 j' x' hj).2⟩) hJ0
          have hds6 : ∀ D ∈ ds, D < W6.heap.size := fun D hD => (Array.getElem?_eq_some_iff.1 (hm6.mks D hD).2).1
          have hmp6 : mp < W6.heap.size := hm6.gm.lt
          refine wpIn_rangeFunc_ownG (F := Fence.wide) rfl (by decide) (gf := 136) (lb := #[.pointer (some ⟨Bs, 0, none⟩)]) rfl trivial (enters_of Tryd.func136 (by kernel_rfl) rfl) hsq (fun h h' => h.trans h')
            (fun W l o o' hl h1 h2 h3 => ⟨World.putObj_heap_other (by omega), World.putObj_heap_other (by omega)⟩) (Below.refl _ _) (fun _ => rfl)
            (fun pre W => ∃ sv, MI wE bx bo L mp bs (pre.reverse.map dummyI ++ ⟨true, (j : Int), t⟩ :: s) nums od m3 sv uv ov ds W ∧ ¬ inRow sv nb ∧ ¬ inRow sv Bs ∧ W6.heap.size ≤ W.heap.size)
            (fun _ _ _ => False) ?own (fun _ _ _ _ _ h _ _ => h) ?zero
            (fun x => { tmps := #[.int .i64 i0, .func (.func 127) #[] #[.pointer (some ⟨bx, 0, none⟩)], .func (.func 129) #[] #[.pointer (some ⟨bo, 0, none⟩)], undef, undef, undef, .bool false, .map (some mp), uv, .pointer (some ⟨bs, 0, none⟩), u2 10, u2 11, u2 12, u2 13, u2 14, u2 15, u2 16, u2 17, .int .i64 x.2, u2 19, u2 20, u2 21, u2 22, u2 23, u2 24, u2 25, u2 26, u2 27, u2 28, u2 29, u2 30, u2 31, u2 32, u2 33, u2 34, u2 35, u2 36, u2 37, u2 38, u2 39, u2 40, u2 41, u2 42, u2 43, u2 44, u2 45, u2 46, u2 47, u2 48, u2 49, u2 50, u2 51, u2 52, u2 53, u2 54, u2 55, u2 56, u2 57, u2 58, u2 59, u2 60, u2 61, u2 62, u2 63, u2 64, u2 65, u2 66, u2 67, u2 68, u2 69, u2 70, u2 71, u2 72, u2 73, u2 74, u2 75, u2 76, u2 77, u2 78, u2 79, u2 80, u2 81, u2 82, u2 83, u2 84, u2 85, u2 86, u2 87, u2 88, u2 89, u2 90, u2 91, u2 92, u2 93, u2 94, u2 95, .func (.func 136) #[] #[.pointer (some ⟨Bs, 0, none⟩)], .int .i64 (x.1 : Int), .int .i64 x.2, u2 99, u2 100, u2 101, u2 102, u2 103], defers := [] }) ?assign ?body ?done ?stop
          case own =>
            rintro pre W W' row ⟨sv, hM, h1, h2, h3⟩ hgr hr
            have hk : Kept (fun k => some k = row) W W' := (Kept.refl _ _).grown hgr (fun k _ e => e)
            have hrr : ∀ k, some k = row → W6.heap.size ≤ k ∧ ∃ o : Obj, W.heap[k]? = some o ∧ o.isCells = false := fun k e => hr k e.symm
            refine ⟨sv, hM.keep hk ?_ ?_ ?_ ?_ ?_ ?_ ?_ ?_ ?_, h1, h2, Nat.le_trans h3 hgr.size⟩
            · intro k hk0 e; have := (hrr _ e).1; have := hm6.kE.size; omega
            · intro e; have := (hrr _ e).1; omega
            · intro e; have := (hrr _ e).1; omega
            · intro e; have := (hrr _ e).1; omega
            · intro e; have := (hrr _ e).1; omega
            · intro k e' e
              obtain ⟨a1, o', a2, a3⟩ := hrr k e
              exact row_ne hM.srow a2 a3 e'.symm
            · intro k e' e
              obtain ⟨a1, o', a2, a3⟩ := hrr k e
              exact row_ne hM.urow a2 a3 e'.symm
            · intro k e' e
              obtain ⟨a1, o', a2, a3⟩ := hrr k e
              exact row_ne hM.orow a2 a3 e'.symm
            · intro D hD e; have := (hrr _ e).1; have := hds6 D hD; omega
          case zero => exact ⟨_, hm6, fun e => hsv6.1 (Option.some.inj e).symm, fun e => by have e' : Bs = g5 := Option.some.inj e; have := hsv6.2; omega, Nat.le_refl _⟩
          case assign =>
            intro l x W K hK
            gi_wp2
            exact hK
          case body =>
            rintro l pre x' W ⟨sv, hM, h1, h2, h3⟩ hlen'
            have sr := hM.srow
            have el : (pre.reverse.map dummyI ++ ⟨true, (j : Int), t⟩ :: s).length = (pre.length + s.length) + 1 := by simp; omega
            rw [el] at sr
            obtain ⟨gv, cv, rfl⟩ := ownsRow_form sr
            have cb := hM.cbs
            have fb := hM.fbs
            have lbs : bs < W.heap.size := lt_of_cell cb
            have hW0 := hM.kE.size
            have HM : Hid (MI wE bx bo L mp bs (pre.reverse.map dummyI ++ ⟨true, (j : Int), t⟩ :: s) nums od m3 (.slice (some ⟨gv, 0, none⟩) (pre.length + s.length + 1) cv) uv ov ds W) := hM
            have EL : Hid _ := el
            clear hM el
            gi_wp2_with (gi_at_builtin; go_must (refine wpListIn_append_own_at _ rfl _ _ 197 rfl wE.heap.size 196 i8 _ 3 24 Tryd.underlying197 hi8 hz80 hz81 hz82 rfl (by decide) (.slice (some ⟨gv, 0, none⟩) (pre.length + s.length + 1) cv) (pre.length + s.length + 1) _ rfl (sr.alloc _) ⟨W.heap.size, 0, none⟩ 1 1 [.int .i64 x'.2, .bool false, .int .i64 0] rfl rfl (three_cells _ _ _ _ _) (by intro y hy; simp at hy; rcases hy with rfl | rfl | rfl <;> rfl) (by unfold maxLen; omega) (by omega) (by simp; omega) ?_); intro sv7 w7 hown7 hgrow7 hnil7 hloc7; obtain ⟨g7, c7, rfl⟩ := ownsRow_form hown7; have k7 : Kept (fun k => inRow (.slice (some ⟨gv, 0, none⟩) (pre.length + s.length + 1) cv) k) W w7 := ((Kept.refl _ _).alloc _).grown hgrow7 (fun k _ e => e); have b7 := (k7.cell (p := ⟨bs, 0, none⟩) lbs HM.out.sx.2.2).trans cb; have a7 := (k7.frozen (p := ⟨bs, 0, none⟩) lbs HM.out.sx.2.2).trans fb)
            have hBW : Bs < W.heap.size := by omega
            have hnW : nb < W.heap.size := by omega
            refine ⟨(((KeepsOthers.alloc W _).trans (KeepsOthers.of_grownBy hgrow7 (row_cells (sr.alloc _)))).trans (KeepsOthers.setCell _ _ _)).from _, ⟨?_, ?_⟩, .slice (some ⟨g7, 0, none⟩) (pre.length + s.length + 1 + 1) c7, ?_, ?_, ?_, ?_⟩
            · rw [Below.heap_setCell _ _ _ _ (by simp; omega)]
              exact k7.block Bs hBW h2
            · rw [Below.heap_setCell _ _ _ _ (by simp; omega)]
              exact k7.block nb hnW h1
            · have e1 : (pre ++ [x']).reverse.map dummyI ++ ⟨true, (j : Int), t⟩ :: s = dummyI x' :: (pre.reverse.map dummyI ++ ⟨true, (j : Int), t⟩ :: s) := by simp
              rw [e1]
              refine (HM.out.keep0 ((Kept.refl _ _).alloc _)).push (k := dummyI x') ?_ hgrow7 hloc7
              rw [EL.out]
              exact hown7
            · intro e
              rcases loc_new hloc7 e with e' | e'
              · exact h1 e'
              · simp at e'
                omega
            · intro e
              rcases loc_new hloc7 e with e' | e'
              · exact h2 e'
              · simp at e'
                omega
            · have := k7.size
              simp [World.setCell]
              omega
          case done =>
            rintro D xs W hD rfl ⟨sv, hM, h1, h2, h3⟩ hK
            go_wp2
            have hD6 : D ∉ ds := fun e => by have := hds6 D e; omega
            refine ⟨wtsI (kidTI (kidsL x) t.kids ++ ⟨true, (j : Int), t⟩ :: s), wtsI_enter t s HL.out, kidTI (kidsL x) t.kids ++ ⟨true, (j : Int), t⟩ :: s, nums, od, ts, m3, sv, uv, ov, D :: ds, rfl, GI.enter hn HG.out HMK.out HDK.out HLT.out G2.out G3.out, ?_, ?_, ?_⟩
            · refine (hM.swap ?_ ?_).mark (by have := hm6.kE.size; omega) hK
              · simp [kidTI_length HL.out, downI_length]
              · have e1 : flatI (List.map dummyI (downI (kidsL x) 0).reverse).reverse = flatI (kidTI (kidsL x) t.kids).reverse := by
                  apply flatI_map
                  have e3 : ∀ l : List TaskI, l.reverse.map TaskI.cells = (l.map TaskI.cells).reverse := fun l => by simp
                  rw [e3, e3, downI_cells, kidTI_cells HL.out]
                rw [List.reverse_append, List.reverse_append, flatI_app, flatI_app, e1]
            · exact List.nodup_cons.2 ⟨hD6, hnd⟩
            · exact act128 _ _ i0 bx bo _ bs uv rfl rfl rfl rfl rfl rfl rfl rfl rfl rfl rfl
          case stop =>
            rintro D c' pre W _ _ h
            exact h.elim
end Go.Proofs.YtdbpdanocpfboaaDoor
