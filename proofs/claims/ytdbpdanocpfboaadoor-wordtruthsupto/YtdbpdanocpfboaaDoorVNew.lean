/- Lists that are new and may be written over; what is appended to nothing. -/
import Derived.Test.YtdbpdanocpfboaaDoorVPlaces
import Derived.Deep.AppendSrc
namespace Go.Proofs.YtdbpdanocpfboaaDoor
open Go.RowKit Go.Shelf

theorem IRow.kept {w0 w w' : World} {b n : Nat} {xs : List Int} (h : IRow w0 w b n xs) (hk : Kept (fun _ => False) w w') : IRow w0 w' b n xs := by
  obtain ⟨h1, h2, h3, h4, h5⟩ := h
  have hb : ∀ i, i < n → b < w.heap.size := fun i hi => by
    obtain ⟨v, hv⟩ := Option.isSome_iff_exists.1 (h4 i hi).1
    exact lt_of_cell hv
  refine ⟨h1.trans hk (fun _ _ f => f), h2, h3, fun i hi => ?_, fun i hi => ?_⟩
  · rw [hk.cell (p := ⟨b, i, none⟩) (hb i hi) (fun f => f), hk.frozen (p := ⟨b, i, none⟩) (hb i hi) (fun f => f)]
    exact h4 i hi
  · rw [hk.cell (p := ⟨b, i, none⟩) (hb i (by omega)) (fun f => f)]
    exact h5 i hi

/-- a slice's address and capacity: the list xs, new since w0, that may be written over -/
def NewS (w0 w : World) (a : Option Addr) (c : Nat) (xs : List Int) : Prop :=
  Kept (fun _ => False) w0 w ∧ ((xs = [] ∧ a = none ∧ c = 0) ∨ ∃ b, a = some ⟨b, 0, none⟩ ∧ b < w.heap.size ∧ IRow w0 w b c xs)
theorem NewS.kept {w0 w w' : World} {a : Option Addr} {c : Nat} {xs : List Int} (h : NewS w0 w a c xs) (hk : Kept (fun _ => False) w w') : NewS w0 w' a c xs := by
  rcases h with ⟨h0, h | ⟨b, e, hb, h⟩⟩
  · exact ⟨h0.trans hk (fun _ _ f => f), .inl h⟩
  · exact ⟨h0.trans hk (fun _ _ f => f), .inr ⟨b, e, Nat.lt_of_lt_of_le hb hk.size, h.kept hk⟩⟩
theorem NewS.rebase {w0 w1 w : World} {a : Option Addr} {c : Nat} {xs : List Int} (h : NewS w1 w a c xs) (hk : Kept (fun _ => False) w0 w1) : NewS w0 w a c xs := by
  rcases h with ⟨h0, h | ⟨b, e, hb, h⟩⟩
  · exact ⟨hk.trans h0 (fun _ _ f => f), .inl h⟩
  · exact ⟨hk.trans h0 (fun _ _ f => f), .inr ⟨b, e, hb, h.rebase hk⟩⟩
theorem NewS.set {w0 w : World} {a : Option Addr} {c : Nat} {xs : List Int} (h : NewS w0 w a c xs) {p : Addr} (hp : ∀ b o, a = some ⟨b, o, none⟩ → p.block ≠ b) (hw : w0.heap.size ≤ p.block) (v : Value) : NewS w0 (w.setCell p v) a c xs := by
  rcases h with ⟨h0, h | ⟨b, e, hb, h⟩⟩
  · exact ⟨h0.setCell (fun hh => by omega) v, .inl h⟩
  · exact ⟨h0.setCell (fun hh => by omega) v, .inr ⟨b, e, Nat.lt_of_lt_of_le hb (by simp [World.setCell]), h.set (hp b 0 e) hw v⟩⟩
theorem NewS.ints {w0 w : World} {a : Option Addr} {c : Nat} {xs : List Int} (h : NewS w0 w a c xs) (hl : xs.length ≤ 17592186044416) : IntsV w.heap.size w (.slice a xs.length c) xs := by
  rcases h with ⟨_, ⟨rfl, rfl, rfl⟩ | ⟨b, rfl, hb, h⟩⟩
  · exact ⟨none, 0, rfl, Nat.zero_le _, Nat.zero_le _, fun i x hx => by simp at hx⟩
  · refine ⟨_, c, rfl, h.2.2.1, hl, fun i x hx => ?_⟩
    obtain ⟨hi, rfl⟩ := List.getElem?_eq_some_iff.1 hx
    exact ⟨b, 0, rfl, hb, by rw [Nat.zero_add]; exact h.2.2.2.2 i hi⟩
theorem NewS.blk {w0 w : World} {a : Option Addr} {c : Nat} {xs : List Int} (h : NewS w0 w a c xs) {b o : Nat} (e : a = some ⟨b, o, none⟩) : w0.heap.size ≤ b ∧ b < w.heap.size ∧ o = 0 := by
  rcases h with ⟨_, ⟨_, e', _⟩ | ⟨b', e', hb, h⟩⟩
  · rw [e] at e'; cases e'
  · rw [e] at e'; cases e'; exact ⟨h.2.1, hb, rfl⟩

theorem IntsV.src {B : Nat} {w : World} {v : Value} {ys : List Int} {tx : TypeId} (htx : Tryd.prog.underlying tx = some (.slice 3)) (hv : IntsV B w v ys) : Src Tryd.prog 1 tx v ys.length (ys.map (Value.int .i64)) w := by
  obtain ⟨a, cap, rfl, hc1, hc2, hc⟩ := hv
  cases a with
  | none =>
    have : ys = [] := by
      cases ys with
      | nil => rfl
      | cons y r => obtain ⟨_, _, e, _⟩ := hc 0 y rfl; cases e
    subst this
    exact Src.ofNil w htx cap
  | some ad =>
    refine Src.ofSlice w htx ad ys.length cap (ys.map (Value.int .i64)) (by simp) (fun j u hu => ?_) (ints_oneCell .i64 ys)
    simp only [List.getElem?_map, Option.map_eq_some_iff] at hu
    obtain ⟨y, hy, rfl⟩ := hu
    obtain ⟨b', off, e, _, hcell⟩ := hc j y hy
    cases e
    have e2 : (⟨b', off, none⟩ : Addr).add j = ⟨b', off + j, none⟩ := by
      unfold Addr.add
      by_cases h0 : j = 0
      · subst h0; simp
      · simp [h0]
    rw [e2]
    exact hcell

theorem new_cell (w : World) (xs : List Int) (k i : Nat) (hi : i < xs.length) : (w.alloc (.cells ((xs.map (Value.int .i64)).toArray ++ Builtin.zeroCells #[.int .i64 0] k) 3)).cell? ⟨w.heap.size, i, none⟩ = some (.int .i64 xs[i]) := by
  rw [World.cell?_alloc_at (hn := rfl), Array.getElem?_append_left (by simpa using hi)]
  simp [hi]
theorem new_cellZ (w : World) (xs : List Int) (k i : Nat) (hi : i < xs.length + k) : ((w.alloc (.cells ((xs.map (Value.int .i64)).toArray ++ Builtin.zeroCells #[.int .i64 0] k) 3)).cell? ⟨w.heap.size, i, none⟩).isSome = true := by
  by_cases h : i < xs.length
  · rw [new_cell w xs k i h]; rfl
  · rw [World.cell?_alloc_at (hn := rfl), Array.getElem?_append_right (by simp; omega)]
    have : i - xs.length < k := by omega
    simp [Builtin.zeroCells, this]

theorem append_nil_ints {w : World} {B : Nat} {ys : List Int} {v : Value} {t tx : TypeId} (htx : Tryd.prog.underlying tx = some (.slice 3)) (ht : Tryd.prog.underlying t = some (.slice 3)) (hv : IntsV B w v ys) :
    ∃ a c w', (∀ ty, (Builtin.append_ #[t, tx] ty #[.slice none 0 0, v]).run Tryd.prog w = .ok (.slice a ys.length c) w') ∧ NewS w w' a c ys := by
  obtain ⟨i0, hi, hz0, hz1, hz2⟩ := info_parts info3'
  have hs := hv.src htx
  obtain ⟨_, _, _, _, hlen, _⟩ := id hv
  by_cases h0 : ys.length = 0
  · have hy : ys = [] := List.length_eq_zero_iff.1 h0
    subst hy
    refine ⟨none, 0, w, fun ty => ?_, Kept.refl _ _, .inl ⟨rfl, rfl, rfl⟩⟩
    have hl := hs.len
    have hc := hs.cells
    simp at hl hc
    simp [Builtin.append_, run_underlying ht, run_underlying htx, sizeOf, typeInfo, zeroValue, hi, hz0, hz1, hl, hc]
  · have h := fun ty => run_append_grow_src (P := Tryd.prog) w t tx ty 3 i0 (.int .i64 0) ht hi hz0 none 0 0 [] (by rw [hz1]; exact run_firstCells_none w.drew 1 0 0 0) v ys.length (ys.map (Value.int .i64)) (by rw [hz1]; exact hs) (by omega) (by omega) (by rw [hz2]; exact growslice_fits (by omega) (by omega))
    simp only [Nat.zero_add, List.nil_append] at h
    have hG := grownCap_ge w ys.length 0 3
    refine ⟨_, _, _, h, ((Kept.refl _ _).drew).alloc _, .inr ⟨w.heap.size, rfl, ?_, ((Kept.refl _ _).drew).alloc _, Nat.le_refl _, hG, fun i hi => ⟨?_, ?_⟩, fun i hi => ?_⟩⟩
    · simp
    · exact new_cellZ w.drew ys _ i (by omega)
    · exact World.frozen?_alloc_new w.drew _ 3 i
    · exact new_cell w.drew ys _ i hi
end Go.Proofs.YtdbpdanocpfboaaDoor
