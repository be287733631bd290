import Derived.Test.YtdbpdanocpfboabGreatDoorZSh
import Derived.Test.YtdbpdanocpfboabGreatDoorZRp
/- A model's text: the document's text. -/
namespace Go.Proofs.YtdbpdanocpfboabGreatDoor
open Go.RowKit

def rowB (n : Nat) (r : List Int) : Bool := !r.isEmpty && (r.all (fun t => decide (0 ≤ t ∧ t < n)) && decide r.Nodup)
/-- are a model's lists of one length, with numbers that may be? -/
def fitsB (m : MD) : Bool := decide (0 < m.names.length) && (decide (m.names.length ≤ 12) && (decide (m.letters.length = m.names.length) && (decide (m.tos.length = m.names.length) && (m.names.all nameB && (decide m.names.Nodup && (m.letters.all okNum && m.tos.all (rowB m.names.length)))))))
structure FitsP (m : MD) : Prop where
  n0 : 0 < m.names.length
  n12 : m.names.length ≤ 12
  l : m.letters.length = m.names.length
  t : m.tos.length = m.names.length
  nm : ∀ x ∈ m.names, nameB x = true
  nd : m.names.Nodup
  lt : ∀ x ∈ m.letters, 0 ≤ x ∧ x ≤ 255
  ne : ∀ r ∈ m.tos, r ≠ []
  rng : ∀ r ∈ m.tos, ∀ t ∈ r, 0 ≤ t ∧ t < m.names.length
  rnd : ∀ r ∈ m.tos, r.Nodup
theorem fitsB_iff (m : MD) : fitsB m = true ↔ FitsP m := by
  simp only [fitsB, rowB, okNum, Bool.and_eq_true, decide_eq_true_eq, List.all_eq_true, Bool.not_eq_true', List.isEmpty_eq_false_iff]
  constructor
  · rintro ⟨h1, h2, h3, h4, h5, h6, h7, h8⟩
    exact ⟨h1, h2, h3, h4, h5, h6, h7, fun r hr => (h8 r hr).1, fun r hr => (h8 r hr).2.1, fun r hr => (h8 r hr).2.2⟩
  · rintro ⟨h1, h2, h3, h4, h5, h6, h7, h8, h9, h10⟩
    exact ⟨h1, h2, h3, h4, h5, h6, h7, fun r hr => ⟨h8 r hr, h9 r hr, h10 r hr⟩⟩
theorem nodup_range {r : List Int} {n : Nat} (h : r.Nodup) (hr : ∀ t ∈ r, 0 ≤ t ∧ t < (n : Int)) : r.length ≤ n := by
  have hsub : r ⊆ (List.range n).map (fun k : Nat => (k : Int)) := fun t ht => by
    have := hr t ht
    simp only [List.mem_map, List.mem_range]
    exact ⟨t.toNat, by omega, by omega⟩
  have := h.length_le_of_subset hsub
  simpa using this
theorem nameB_size {x : ByteArray} (h : nameB x = true) : 1 ≤ x.size ∧ x.size ≤ 6 := by
  simp only [nameB, Bool.and_eq_true, decide_eq_true_eq] at h
  exact h.1

def sp : ByteArray := ⟨#[32]⟩
def spgt : ByteArray := ⟨#[32, 62]⟩
def nl : ByteArray := ⟨#[10]⟩
def toName (m : MD) (t : Int) : ByteArray := m.names.getD t.toNat nil
def rowA (m : MD) (acc : ByteArray) : List Int → ByteArray
  | [] => acc
  | t :: r => rowA m (acc ++ sp ++ toName m t) r
def headA (m : MD) (k : Nat) (acc : ByteArray) : ByteArray := acc ++ m.names.getD k nil ++ sp ++ shownB (m.letters.getD k 0).toNat ++ spgt
def textA (m : MD) : Nat → ByteArray
  | 0 => nil
  | k + 1 => rowA m (headA m k (textA m k)) (m.tos.getD k []) ++ nl
/-- a model's text -/
def textM (m : MD) : ByteArray := textA m m.names.length
theorem rowA_snoc (m : MD) (t : Int) : ∀ (r : List Int) (acc : ByteArray), rowA m acc (r ++ [t]) = rowA m acc r ++ sp ++ toName m t
  | [], acc => rfl
  | x :: r, acc => by rw [List.cons_append, rowA, rowA, rowA_snoc m t r]
theorem size_app (a b : ByteArray) : (a ++ b).size = a.size + b.size := ByteArray.size_append
theorem rowA_size (m : MD) (hm : ∀ t, (toName m t).size ≤ 6) : ∀ (r : List Int) (acc : ByteArray), (rowA m acc r).size ≤ acc.size + 7 * r.length
  | [], acc => by simp [rowA]
  | x :: r, acc => by
    have h1 := rowA_size m hm r (acc ++ sp ++ toName m x)
    have h2 := hm x
    have h3 : sp.size = 1 := rfl
    rw [rowA]
    simp only [size_app, List.length_cons] at *
    omega
theorem shownB_size (x : Nat) : (shownB x).size ≤ 8 := by
  unfold shownB
  split
  · decide
  · have := bitsL_len x 8
    simpa [ByteArray.size] using this
theorem FitsP.toName {m : MD} (h : FitsP m) (t : Int) : (toName m t).size ≤ 6 := by
  unfold Go.Proofs.YtdbpdanocpfboabGreatDoor.toName
  by_cases hk : t.toNat < m.names.length
  · simp only [List.getD_eq_getElem?_getD, List.getElem?_eq_getElem hk, Option.getD_some]
    exact (nameB_size (h.nm _ (List.getElem_mem hk))).2
  · simp only [List.getD_eq_getElem?_getD, List.getElem?_eq_none (Nat.le_of_not_lt hk), Option.getD_none]
    decide
theorem FitsP.name {m : MD} (h : FitsP m) (k : Nat) : (m.names.getD k nil).size ≤ 6 := by
  have := h.toName (k : Int)
  simpa [Go.Proofs.YtdbpdanocpfboabGreatDoor.toName] using this
theorem headA_size {m : MD} (h : FitsP m) (k : Nat) (acc : ByteArray) : (headA m k acc).size ≤ acc.size + 17 := by
  have h1 := h.name k
  have h2 := shownB_size (m.letters.getD k 0).toNat
  have h3 : sp.size = 1 := rfl
  have h4 : spgt.size = 2 := rfl
  unfold headA
  simp only [size_app]
  omega
theorem FitsP.row {m : MD} (h : FitsP m) (k : Nat) : (m.tos.getD k []).length ≤ 12 := by
  by_cases hk : k < m.tos.length
  · simp only [List.getD_eq_getElem?_getD, List.getElem?_eq_getElem hk, Option.getD_some]
    exact Nat.le_trans (nodup_range (h.rnd _ (List.getElem_mem hk)) (h.rng _ (List.getElem_mem hk))) h.n12
  · simp only [List.getD_eq_getElem?_getD, List.getElem?_eq_none (Nat.le_of_not_lt hk), Option.getD_none]
    simp
theorem textA_size {m : MD} (h : FitsP m) : ∀ k, (textA m k).size ≤ 102 * k
  | 0 => by simp [textA]; decide
  | k + 1 => by
    have h1 := textA_size h k
    have h2 := headA_size h k (textA m k)
    have h3 := rowA_size m h.toName (m.tos.getD k []) (headA m k (textA m k))
    have h4 := h.row k
    have h5 : nl.size = 1 := rfl
    rw [textA]
    simp only [size_app]
    omega
end Go.Proofs.YtdbpdanocpfboabGreatDoor
