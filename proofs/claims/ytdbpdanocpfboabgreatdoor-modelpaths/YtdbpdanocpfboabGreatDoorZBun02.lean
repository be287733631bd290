import Derived.Test.YtdbpdanocpfboabGreatDoorZBun01
import Derived.Shelf.Abstract
import Derived.Deep.AppendSrc
import Derived.Deep.RegionLaw
import Derived.Deep.Upon
import Derived.Deep.DeepCutAuto
/- Walks of package word: placesOf. -/
namespace Go.Proofs.YtdbpdanocpfboabGreatDoor
open Go.RowKit Go.Shelf

theorem wpList_append_run {P : Program} {w w' : World} {ops : Array Oper} {rest : List Oper} {o : Oper} {a : Act} {Q : Exit → Act → World → Prop} {v' : Value} (hgd : o.guard = none) (s x : Operand) (t tx : TypeId)
    (ho : o.op = .call { callee := .builtin .append, args := #[s, x], argTypes := #[t, tx] }) (v u : Value) (hs : a.eval s = v) (hx : a.eval x = u) (hr : ∀ ty, (Builtin.append_ #[t, tx] ty #[v, u]).run P w = .ok v' w')
    (h : wpList P ops Q rest (a.put o.dst v') w') : wpList P ops Q (o :: rest) a w := by
  refine wpList_plain hgd fun K hK => ?_
  unfold Oper.wp execOp
  simp only [ho, resolve, invoke, builtin, Sem.run_bind, Sem.run_pure, Result.andThen_ok, List.map_toArray, List.map_cons, List.map_nil, hs, hx, hr]
  exact hK _ _ h
theorem step_append_run {P : Program} {ops : Array Oper} {o : Oper} {a : Act} {w w' : World} {K : Act → World → Prop} {Q : Exit → Act → World → Prop} {E : Prop} {v' : Value}
    (hg : o.guard = none) (s x : Operand) (t tx : TypeId) (hop : o.op = Op.call { callee := Callee.builtin Builtin.append, args := #[s, x], argTypes := #[t, tx] }) (v u : Value) (hs : a.eval s = v) (hx : a.eval x = u)
    (hr : ∀ ty, (Builtin.append_ #[t, tx] ty #[v, u]).run P w = .ok v' w') (hK : K (a.put o.dst v') w') : if Region.wanted o (yielded ops a.tmps) = true then Oper.wp P o a w K Q else E := by
  have hw : Region.wanted o (yielded ops a.tmps) = true := by simp [Region.wanted, hg]
  rw [if_pos hw]
  unfold Oper.wp
  simp [execOp, hop, resolve, invoke, builtin, hs, hx, hr, Result.andThen]
  exact hK

/-- block b, new since w0, is a row of n ints, filled as far as xs goes -/
def IRow (w0 w : World) (b n : Nat) (xs : List Int) : Prop :=
  Kept (fun _ => False) w0 w ∧ w0.heap.size ≤ b ∧ xs.length ≤ n ∧ (∀ i, i < n → (w.cell? ⟨b, i, none⟩).isSome = true ∧ w.frozen? ⟨b, i, none⟩ = false) ∧ ∀ i (h : i < xs.length), w.cell? ⟨b, i, none⟩ = some (.int .i64 xs[i])
theorem IRow.drew {w0 w : World} {b n : Nat} {xs : List Int} (h : IRow w0 w b n xs) : IRow w0 w.drew b n xs := ⟨h.1.drew, h.2⟩

theorem IRow.rebase {w w0 W : World} {b n : Nat} {xs : List Int} (h : IRow w0 W b n xs) (hk : Kept (fun _ => False) w w0) : IRow w W b n xs :=
  ⟨hk.trans h.1 (fun _ _ f => f), Nat.le_trans hk.size h.2.1, h.2.2⟩
theorem IRow.set {w W : World} {b n : Nat} {xs : List Int} (h : IRow w W b n xs) {p : Addr} (hp : p.block ≠ b) (hw : w.heap.size ≤ p.block) (v : Value) : IRow w (W.setCell p v) b n xs := by
  obtain ⟨h1, h2, h3, h4, h5⟩ := h
  have hb : (W.setCell p v).heap[b]? = W.heap[b]? := Below.heap_setCell _ _ _ _ (fun e => hp e.symm)
  refine ⟨h1.setCell (fun hh => by omega) _, h2, h3, fun i hi => ?_, fun i hi => (World.cell?_of_block (w := W) (a := ⟨b, i, none⟩) hb).trans (h5 i hi)⟩
  rw [World.cell?_of_block (w := W) (a := ⟨b, i, none⟩) hb, World.frozen?_of_block (w := W) (a := ⟨b, i, none⟩) hb]
  exact h4 i hi
theorem kept_setCells {S : Nat → Prop} {w0 w : World} (h : Kept S w0 w) (b : Nat) (hb : w0.heap.size ≤ b) : ∀ (vs : List Value) (o : Nat), Kept S w0 (w.setCells b o vs) := by
  intro vs
  induction vs generalizing w with
  | nil => intro o; exact h
  | cons v r ih => intro o; exact ih (h.setCell (fun hh => by simp at hh; omega) _) (o + 1)

theorem IRow.fill {w0 w : World} {b n : Nat} {xs ys : List Int} (h : IRow w0 w b n xs) (hl : xs.length + ys.length ≤ n) : IRow w0 (w.setCells b xs.length (ys.map (Value.int .i64))) b n (xs ++ ys) := by
  obtain ⟨h1, h2, h3, h4, h5⟩ := h
  have hs : ∀ j, j < (ys.map (Value.int .i64)).length → (w.cell? ⟨b, xs.length + j, none⟩).isSome = true := fun j hj => (h4 _ (by simp at hj; omega)).1
  refine ⟨kept_setCells h1 b h2 _ _, h2, by simpa using hl, fun i hi => ⟨?_, ?_⟩, fun i hi => ?_⟩
  · by_cases hi2 : i < xs.length ∨ xs.length + ys.length ≤ i
    · rw [World.cell?_setCells_out b _ _ _ ⟨b, i, none⟩ (fun _ _ => by simpa using hi2)]
      exact (h4 i hi).1
    · have hj : i - xs.length < (ys.map (Value.int .i64)).length := by simp; omega
      have := World.cell?_setCells_in b (ys.map (Value.int .i64)) xs.length w hs (i - xs.length) hj
      rw [show xs.length + (i - xs.length) = i by omega] at this
      rw [this]
      rfl
  · rw [World.frozen?_setCells]; exact (h4 i hi).2
  · by_cases hi2 : i < xs.length
    · rw [World.cell?_setCells_out b _ _ _ ⟨b, i, none⟩ (fun _ _ => .inl hi2), h5 i hi2]
      simp [hi2]
    · have hi3 : i < xs.length + ys.length := by simpa using hi
      have hj : i - xs.length < (ys.map (Value.int .i64)).length := by simp; omega
      have := World.cell?_setCells_in b (ys.map (Value.int .i64)) xs.length w hs (i - xs.length) hj
      rw [show xs.length + (i - xs.length) = i by omega] at this
      rw [this]
      simp [List.getElem_append_right (by omega : xs.length ≤ i)]

theorem info3' : (Tryz.prog.info? 3).map (fun i => (i.zero, i.size, i.bytes)) = some (some (.int .i64 0), 1, 8) := by kernel_rfl

theorem append_ints {w0 w : World} {b n B : Nat} {xs ys : List Int} {v : Value} {t : TypeId} (ht : Tryz.prog.underlying t = some (.slice 3)) (h : IRow w0 w b n xs) (hl : xs.length + ys.length ≤ n) (hv : IntsV B w v ys) :
    ∀ ty, (Builtin.append_ #[t, 23] ty #[.slice (some ⟨b, 0, none⟩) xs.length n, v]).run Tryz.prog w = .ok (.slice (some ⟨b, 0, none⟩) (xs.length + ys.length) n) (w.setCells b xs.length (ys.map (Value.int .i64))) := by
  intro ty
  obtain ⟨i0, hi, hz0, hz1, hz2⟩ := info_parts info3'
  have hsrc : Src Tryz.prog i0.size 23 v ys.length (ys.map (Value.int .i64)) w := by
    rw [hz1]
    obtain ⟨a, cap, rfl, hc1, hc2, hc⟩ := hv
    cases a with
    | none =>
      have : ys = [] := by
        cases ys with
        | nil => rfl
        | cons y r => obtain ⟨_, _, e, _⟩ := hc 0 y rfl; cases e
      subst this
      exact Src.ofNil w Tryz.underlying23 cap
    | some ad =>
      refine Src.ofSlice w Tryz.underlying23 ad ys.length cap (ys.map (Value.int .i64)) (by simp) (fun j u hu => ?_) (ints_oneCell .i64 ys)
      simp only [List.getElem?_map, Option.map_eq_some_iff] at hu
      obtain ⟨y, hy, rfl⟩ := hu
      obtain ⟨b', off, e, _, hcell⟩ := hc j y hy
      cases e
      have e2 : (⟨b', off, none⟩ : Addr).add j = ⟨b', off + j, none⟩ := by
        unfold Addr.add
        by_cases h0 : j = 0
        · subst h0; simp
        · simp [h0]
      rw [e2]
      exact hcell
  have := run_append_room_src (P := Tryz.prog) w t 23 ty 3 i0 ht hi b 0 xs.length n v ys.length (ys.map (Value.int .i64)) hsrc hl
    (fun j hj => by rw [hz1]; simp only [Nat.zero_add, Nat.mul_one]; exact (h.2.2.2.1 _ (by simp at hj; omega)).1) (fun j hj => by rw [hz1]; simp only [Nat.zero_add, Nat.mul_one]; exact (h.2.2.2.1 _ (by simp at hj; omega)).2)
  rw [hz1] at this
  simpa using this

end Go.Proofs.YtdbpdanocpfboabGreatDoor

/- Lists that are new and may be written over; what is appended to nothing. -/
namespace Go.Proofs.YtdbpdanocpfboabGreatDoor
open Go.RowKit Go.Shelf

theorem IRow.kept {w0 w w' : World} {b n : Nat} {xs : List Int} (h : IRow w0 w b n xs) (hk : Kept (fun _ => False) w w') : IRow w0 w' b n xs := by
  obtain ⟨h1, h2, h3, h4, h5⟩ := h
  have hb : ∀ i, i < n → b < w.heap.size := fun i hi => by
    obtain ⟨v, hv⟩ := Option.isSome_iff_exists.1 (h4 i hi).1
    exact lt_of_cell hv
  refine ⟨h1.trans hk (fun _ _ f => f), h2, h3, fun i hi => ?_, fun i hi => ?_⟩
  · rw [hk.cell (p := ⟨b, i, none⟩) (hb i hi) (fun f => f), hk.frozen (p := ⟨b, i, none⟩) (hb i hi) (fun f => f)]
    exact h4 i hi
  · rw [hk.cell (p := ⟨b, i, none⟩) (hb i (by omega)) (fun f => f)]
    exact h5 i hi

/-- a slice's address and capacity: the list xs, new since w0, that may be written over -/
def NewS (w0 w : World) (a : Option Addr) (c : Nat) (xs : List Int) : Prop :=
  Kept (fun _ => False) w0 w ∧ ((xs = [] ∧ a = none ∧ c = 0) ∨ ∃ b, a = some ⟨b, 0, none⟩ ∧ b < w.heap.size ∧ IRow w0 w b c xs)
theorem NewS.kept {w0 w w' : World} {a : Option Addr} {c : Nat} {xs : List Int} (h : NewS w0 w a c xs) (hk : Kept (fun _ => False) w w') : NewS w0 w' a c xs := by
  rcases h with ⟨h0, h | ⟨b, e, hb, h⟩⟩
  · exact ⟨h0.trans hk (fun _ _ f => f), .inl h⟩
  · exact ⟨h0.trans hk (fun _ _ f => f), .inr ⟨b, e, Nat.lt_of_lt_of_le hb hk.size, h.kept hk⟩⟩
theorem NewS.rebase {w0 w1 w : World} {a : Option Addr} {c : Nat} {xs : List Int} (h : NewS w1 w a c xs) (hk : Kept (fun _ => False) w0 w1) : NewS w0 w a c xs := by
  rcases h with ⟨h0, h | ⟨b, e, hb, h⟩⟩
  · exact ⟨hk.trans h0 (fun _ _ f => f), .inl h⟩
  · exact ⟨hk.trans h0 (fun _ _ f => f), .inr ⟨b, e, hb, h.rebase hk⟩⟩
theorem NewS.set {w0 w : World} {a : Option Addr} {c : Nat} {xs : List Int} (h : NewS w0 w a c xs) {p : Addr} (hp : ∀ b o, a = some ⟨b, o, none⟩ → p.block ≠ b) (hw : w0.heap.size ≤ p.block) (v : Value) : NewS w0 (w.setCell p v) a c xs := by
  rcases h with ⟨h0, h | ⟨b, e, hb, h⟩⟩
  · exact ⟨h0.setCell (fun hh => by omega) v, .inl h⟩
  · exact ⟨h0.setCell (fun hh => by omega) v, .inr ⟨b, e, Nat.lt_of_lt_of_le hb (by simp [World.setCell]), h.set (hp b 0 e) hw v⟩⟩
theorem NewS.ints {w0 w : World} {a : Option Addr} {c : Nat} {xs : List Int} (h : NewS w0 w a c xs) (hl : xs.length ≤ 17592186044416) : IntsV w.heap.size w (.slice a xs.length c) xs := by
  rcases h with ⟨_, ⟨rfl, rfl, rfl⟩ | ⟨b, rfl, hb, h⟩⟩
  · exact ⟨none, 0, rfl, Nat.zero_le _, Nat.zero_le _, fun i x hx => by simp at hx⟩
  · refine ⟨_, c, rfl, h.2.2.1, hl, fun i x hx => ?_⟩
    obtain ⟨hi, rfl⟩ := List.getElem?_eq_some_iff.1 hx
    exact ⟨b, 0, rfl, hb, by rw [Nat.zero_add]; exact h.2.2.2.2 i hi⟩
theorem NewS.blk {w0 w : World} {a : Option Addr} {c : Nat} {xs : List Int} (h : NewS w0 w a c xs) {b o : Nat} (e : a = some ⟨b, o, none⟩) : w0.heap.size ≤ b ∧ b < w.heap.size ∧ o = 0 := by
  rcases h with ⟨_, ⟨_, e', _⟩ | ⟨b', e', hb, h⟩⟩
  · rw [e] at e'; cases e'
  · rw [e] at e'; cases e'; exact ⟨h.2.1, hb, rfl⟩

theorem IntsV.src {B : Nat} {w : World} {v : Value} {ys : List Int} {tx : TypeId} (htx : Tryz.prog.underlying tx = some (.slice 3)) (hv : IntsV B w v ys) : Src Tryz.prog 1 tx v ys.length (ys.map (Value.int .i64)) w := by
  obtain ⟨a, cap, rfl, hc1, hc2, hc⟩ := hv
  cases a with
  | none =>
    have : ys = [] := by
      cases ys with
      | nil => rfl
      | cons y r => obtain ⟨_, _, e, _⟩ := hc 0 y rfl; cases e
    subst this
    exact Src.ofNil w htx cap
  | some ad =>
    refine Src.ofSlice w htx ad ys.length cap (ys.map (Value.int .i64)) (by simp) (fun j u hu => ?_) (ints_oneCell .i64 ys)
    simp only [List.getElem?_map, Option.map_eq_some_iff] at hu
    obtain ⟨y, hy, rfl⟩ := hu
    obtain ⟨b', off, e, _, hcell⟩ := hc j y hy
    cases e
    have e2 : (⟨b', off, none⟩ : Addr).add j = ⟨b', off + j, none⟩ := by
      unfold Addr.add
      by_cases h0 : j = 0
      · subst h0; simp
      · simp [h0]
    rw [e2]
    exact hcell

theorem new_cell (w : World) (xs : List Int) (k i : Nat) (hi : i < xs.length) : (w.alloc (.cells ((xs.map (Value.int .i64)).toArray ++ Builtin.zeroCells #[.int .i64 0] k) 3)).cell? ⟨w.heap.size, i, none⟩ = some (.int .i64 xs[i]) := by
  rw [World.cell?_alloc_at (hn := rfl), Array.getElem?_append_left (by simpa using hi)]
  simp [hi]
theorem new_cellZ (w : World) (xs : List Int) (k i : Nat) (hi : i < xs.length + k) : ((w.alloc (.cells ((xs.map (Value.int .i64)).toArray ++ Builtin.zeroCells #[.int .i64 0] k) 3)).cell? ⟨w.heap.size, i, none⟩).isSome = true := by
  by_cases h : i < xs.length
  · rw [new_cell w xs k i h]; rfl
  · rw [World.cell?_alloc_at (hn := rfl), Array.getElem?_append_right (by simp; omega)]
    have : i - xs.length < k := by omega
    simp [Builtin.zeroCells, this]

theorem append_nil_ints {w : World} {B : Nat} {ys : List Int} {v : Value} {t tx : TypeId} (htx : Tryz.prog.underlying tx = some (.slice 3)) (ht : Tryz.prog.underlying t = some (.slice 3)) (hv : IntsV B w v ys) :
    ∃ a c w', (∀ ty, (Builtin.append_ #[t, tx] ty #[.slice none 0 0, v]).run Tryz.prog w = .ok (.slice a ys.length c) w') ∧ NewS w w' a c ys := by
  obtain ⟨i0, hi, hz0, hz1, hz2⟩ := info_parts info3'
  have hs := hv.src htx
  obtain ⟨_, _, _, _, hlen, _⟩ := id hv
  by_cases h0 : ys.length = 0
  · have hy : ys = [] := List.length_eq_zero_iff.1 h0
    subst hy
    refine ⟨none, 0, w, fun ty => ?_, Kept.refl _ _, .inl ⟨rfl, rfl, rfl⟩⟩
    have hl := hs.len
    have hc := hs.cells
    simp at hl hc
    simp [Builtin.append_, run_underlying ht, run_underlying htx, sizeOf, typeInfo, zeroValue, hi, hz0, hz1, hl, hc]
  · have h := fun ty => run_append_grow_src (P := Tryz.prog) w t tx ty 3 i0 (.int .i64 0) ht hi hz0 none 0 0 [] (by rw [hz1]; exact run_firstCells_none w.drew 1 0 0 0) v ys.length (ys.map (Value.int .i64)) (by rw [hz1]; exact hs) (by omega) (by omega) (by rw [hz2]; exact growslice_fits (by omega) (by omega))
    simp only [Nat.zero_add, List.nil_append] at h
    have hG := grownCap_ge w ys.length 0 3
    refine ⟨_, _, _, h, ((Kept.refl _ _).drew).alloc _, .inr ⟨w.heap.size, rfl, ?_, ((Kept.refl _ _).drew).alloc _, Nat.le_refl _, hG, fun i hi => ⟨?_, ?_⟩, fun i hi => ?_⟩⟩
    · simp
    · exact new_cellZ w.drew ys _ i (by omega)
    · exact World.frozen?_alloc_new w.drew _ 3 i
    · exact new_cell w.drew ys _ i hi
end Go.Proofs.YtdbpdanocpfboabGreatDoor
