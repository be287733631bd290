/- Formulas as trees, as lists of Nodes, and the walk through them: no program here but the Nodes' own shape. -/
import Derived.Test.YtdbpdanocpfboaaDoorVMake
import Derived.Test.YtdbpdanocpfboaaDoorVKids
namespace Go.Proofs.YtdbpdanocpfboaaDoor
open Go.RowKit

inductive Tr where
  | mk (op n : Int) (kids : List Tr)

namespace Tr
def op : Tr → Int | mk o _ _ => o
def n : Tr → Int | mk _ m _ => m
def kids : Tr → List Tr | mk _ _ k => k
mutual
def size : Tr → Nat
  | mk _ _ k => 1 + sizes k
def sizes : List Tr → Nat
  | [] => 0
  | t :: r => size t + sizes r
end
mutual
def well : Tr → Prop
  | mk o m k => wellN o m k.length ∧ wells k
def wells : List Tr → Prop
  | [] => True
  | t :: r => well t ∧ wells r
end
theorem size_pos (t : Tr) : 0 < t.size := by cases t; simp [size]; omega
theorem sizes_mem {t : Tr} : ∀ {l : List Tr}, t ∈ l → t.size ≤ sizes l
  | x :: r, h => by
    rcases List.mem_cons.1 h with rfl | h
    · simp [sizes]
    · have := sizes_mem h; simp [sizes]; omega
theorem size_kid {t k : Tr} (h : k ∈ t.kids) : k.size < t.size := by
  cases t with
  | mk o m l => have := sizes_mem (l := l) h; simp [size]; omega
theorem wells_iff : ∀ {l : List Tr}, wells l ↔ ∀ t ∈ l, t.well
  | [] => by simp [wells]
  | x :: r => by simp [wells, wells_iff (l := r)]
theorem well_kid {t k : Tr} (h : t.well) (hk : k ∈ t.kids) : k.well := by
  cases t with
  | mk o m l => exact wells_iff.1 h.2 k hk
end Tr

/-! ### Forms in memory -/
mutual
/-- the Form that lies at (b, o) reads as t; all of it below block B -/
def FormAt (B : Nat) (w : World) (b o : Nat) : Tr → Prop
  | .mk op n kids => b < B ∧ PlainB w b ∧ w.cell? ⟨b, o, none⟩ = some (.int .i64 op) ∧ w.cell? ⟨b, o + 1, none⟩ = some (.int .i64 n) ∧
      ∃ ka kb ko kc, w.cell? ⟨b, o + 2, none⟩ = some (.slice ka kids.length kc) ∧ (0 < kids.length → ka = some ⟨kb, ko, none⟩) ∧ FormsAt B w kb ko kids
def FormsAt (B : Nat) (w : World) (b o : Nat) : List Tr → Prop
  | [] => True
  | t :: r => FormAt B w b o t ∧ FormsAt B w b (o + 3) r
end

mutual
theorem FormAt.inj {B : Nat} {w : World} {b o : Nat} : ∀ {t t' : Tr}, FormAt B w b o t → FormAt B w b o t' → t = t'
  | .mk op n kids, .mk op' n' kids', h, h' => by
    obtain ⟨_, _, h0, h1, ka, kb, ko, kc, h2, hk, hf⟩ := h
    obtain ⟨_, _, g0, g1, ka', kb', ko', kc', g2, gk, gf⟩ := h'
    rw [h0] at g0; rw [h1] at g1; rw [h2] at g2
    simp at g0 g1 g2
    obtain ⟨e1, e2, e3⟩ := g2
    have ek : kids = kids' := by
      by_cases hz : 0 < kids.length
      · have a1 := hk hz
        have a2 := gk (by omega)
        rw [e1, a2] at a1
        simp at a1
        obtain ⟨rfl, rfl⟩ := a1
        exact FormsAt.inj e2 hf gf
      · have z1 : kids = [] := List.eq_nil_of_length_eq_zero (by omega)
        have z2 : kids' = [] := List.eq_nil_of_length_eq_zero (by omega)
        rw [z1, z2]
    rw [g0, g1, ek]
theorem FormsAt.inj {B : Nat} {w : World} {b o : Nat} : ∀ {l l' : List Tr}, l.length = l'.length → FormsAt B w b o l → FormsAt B w b o l' → l = l'
  | [], [], _, _, _ => rfl
  | t :: r, t' :: r', hl, h, h' => by
    have e1 := FormAt.inj h.1 h'.1
    have e2 := FormsAt.inj (by simpa using hl) h.2 h'.2
    rw [e1, e2]
end

mutual
theorem FormAt.below {B : Nat} {w w' : World} (hb : Below B w w') {b o : Nat} : ∀ {t : Tr}, FormAt B w b o t → FormAt B w' b o t
  | .mk op n kids, h => by
    obtain ⟨hB, hp, h0, h1, ka, kb, ko, kc, h2, hk, hf⟩ := h
    exact ⟨hB, hp.of_block (hb.block b hB), (hb.cell (p := ⟨b, o, none⟩) hB).trans h0, (hb.cell (p := ⟨b, o + 1, none⟩) hB).trans h1, ka, kb, ko, kc, (hb.cell (p := ⟨b, o + 2, none⟩) hB).trans h2, hk, FormsAt.below hb hf⟩
theorem FormsAt.below {B : Nat} {w w' : World} (hb : Below B w w') {b o : Nat} : ∀ {l : List Tr}, FormsAt B w b o l → FormsAt B w' b o l
  | [], _ => trivial
  | _ :: _, h => ⟨FormAt.below hb h.1, FormsAt.below hb h.2⟩
end
mutual
theorem FormAt.mono {B B' : Nat} {w : World} (hB : B ≤ B') {b o : Nat} : ∀ {t : Tr}, FormAt B w b o t → FormAt B' w b o t
  | .mk op n kids, h => by
    obtain ⟨h1, h2, h3, h4, ka, kb, ko, kc, h5, h6, h7⟩ := h
    exact ⟨Nat.lt_of_lt_of_le h1 hB, h2, h3, h4, ka, kb, ko, kc, h5, h6, FormsAt.mono hB h7⟩
theorem FormsAt.mono {B B' : Nat} {w : World} (hB : B ≤ B') {b o : Nat} : ∀ {l : List Tr}, FormsAt B w b o l → FormsAt B' w b o l
  | [], _ => trivial
  | _ :: _, h => ⟨FormAt.mono hB h.1, FormsAt.mono hB h.2⟩
end
theorem FormsAt.get {B : Nat} {w : World} : ∀ {l : List Tr} {b o j : Nat} {t : Tr}, FormsAt B w b o l → l[j]? = some t → FormAt B w b (o + j * 3) t
  | x :: r, b, o, 0, t, h, e => by simp at e; subst e; simpa using h.1
  | x :: r, b, o, j + 1, t, h, e => by
    have := FormsAt.get (j := j) h.2 (by simpa using e)
    have e2 : o + 3 + j * 3 = o + (j + 1) * 3 := by omega
    rwa [e2] at this

/-! ### Lists of Nodes -/
mutual
/-- Node number i is the formula t -/
def Den (ns : List Nd) (i : Int) : Tr → Prop
  | .mk op n kids => ∃ (j : Nat) (ids : List Int), i = (j : Int) ∧ ns[j]? = some (mkNd op n ids) ∧ Dens ns ids kids
def Dens (ns : List Nd) (ids : List Int) : List Tr → Prop
  | [] => ids = []
  | t :: r => ∃ i rest, ids = i :: rest ∧ Den ns i t ∧ Dens ns rest r
end

theorem get_prefix {α : Type} {l l' : List α} (h : l <+: l') {j : Nat} {x : α} (e : l[j]? = some x) : l'[j]? = some x := by
  obtain ⟨r, rfl⟩ := h
  have := (List.getElem?_eq_some_iff.1 e).1
  rw [List.getElem?_append_left this]; exact e
mutual
theorem Den.grow {ns ns' : List Nd} (h : ns <+: ns') {i : Int} : ∀ {t : Tr}, Den ns i t → Den ns' i t
  | .mk op n kids, hd => by
    obtain ⟨j, ids, e, hg, hk⟩ := hd
    exact ⟨j, ids, e, get_prefix h hg, Dens.grow h hk⟩
theorem Dens.grow {ns ns' : List Nd} (h : ns <+: ns') {ids : List Int} : ∀ {l : List Tr}, Dens ns ids l → Dens ns' ids l
  | [], hd => hd
  | _ :: _, hd => by
    obtain ⟨i, rest, e, h1, h2⟩ := hd
    exact ⟨i, rest, e, Den.grow h h1, Dens.grow h h2⟩
end
theorem Dens.length {ns : List Nd} : ∀ {ids : List Int} {l : List Tr}, Dens ns ids l → ids.length = l.length
  | ids, [], h => by rw [show ids = [] from h]; rfl
  | ids, t :: r, h => by
    obtain ⟨i, rest, rfl, _, h2⟩ := h
    simp [Dens.length h2]
theorem Dens.append {ns : List Nd} : ∀ {a b : List Int} {l r : List Tr}, Dens ns a l → Dens ns b r → Dens ns (a ++ b) (l ++ r)
  | a, b, [], r, h, h' => by rw [show a = [] from h]; exact h'
  | a, b, t :: l, r, h, h' => by
    obtain ⟨i, rest, rfl, h1, h2⟩ := h
    exact ⟨i, rest ++ b, rfl, h1, Dens.append h2 h'⟩
theorem Dens.split {ns : List Nd} : ∀ {ids : List Int} {l r : List Tr}, Dens ns ids (l ++ r) → ∃ a b, ids = a ++ b ∧ Dens ns a l ∧ Dens ns b r
  | ids, [], r, h => ⟨[], ids, rfl, rfl, h⟩
  | ids, t :: l, r, h => by
    obtain ⟨i, rest, rfl, h1, h2⟩ := h
    obtain ⟨a, b, rfl, h3, h4⟩ := Dens.split h2
    exact ⟨i :: a, b, rfl, ⟨i, a, rfl, h1, h3⟩, h4⟩
theorem Dens.one {ns : List Nd} {i : Int} {t : Tr} (h : Den ns i t) : Dens ns [i] [t] := ⟨i, [], rfl, h, rfl⟩
theorem Den.lt {ns : List Nd} {i : Int} {t : Tr} (h : Den ns i t) : 0 ≤ i ∧ i < ns.length := by
  cases t with
  | mk op n kids =>
    obtain ⟨j, ids, rfl, hg, _⟩ := h
    have := (List.getElem?_eq_some_iff.1 hg).1
    omega
theorem Dens.lt {ns : List Nd} : ∀ {ids : List Int} {l : List Tr}, Dens ns ids l → ∀ i ∈ ids, 0 ≤ i ∧ i < ns.length
  | ids, [], h => by rw [show ids = [] from h]; simp
  | ids, t :: r, h => by
    obtain ⟨i, rest, rfl, h1, h2⟩ := h
    intro x hx
    rcases List.mem_cons.1 hx with rfl | hx
    · exact h1.lt
    · exact Dens.lt h2 x hx

/-- what a Node made of ids tells of them -/
theorem mkNd_inj {op n op' n' : Int} {ids ids' : List Int} (h : mkNd op n ids = mkNd op' n' ids') (l : ids.length ≤ 2) (l' : ids'.length ≤ 2) (p : ∀ i ∈ ids, 0 ≤ i) (p' : ∀ i ∈ ids', 0 ≤ i) :
    op = op' ∧ ids = ids' ∧ (ids = [] → n = n') := by
  match ids, ids', h with
  | [], [], h => simpa [mkNd] using h
  | [], [a], h => have := p' a (by simp); simp [mkNd] at h; omega
  | [], a :: b :: r, h => have := p' a (by simp); simp [mkNd] at h; omega
  | [a], [], h => have := p a (by simp); simp [mkNd] at h; omega
  | [a], [b], h => simp [mkNd] at h; simp [h.1, h.2]
  | [a], b :: c :: r, h => have := p' c (by simp); simp [mkNd] at h; omega
  | a :: b :: r, [], h => have := p a (by simp); simp [mkNd] at h; omega
  | a :: b :: r, [c], h => have := p b (by simp); simp [mkNd] at h; omega
  | a :: b :: r, c :: d :: s, h =>
    have e1 : r = [] := List.eq_nil_of_length_eq_zero (by simp only [List.length_cons] at l; omega)
    have e2 : s = [] := List.eq_nil_of_length_eq_zero (by simp only [List.length_cons] at l'; omega)
    subst e1 e2
    simp [mkNd] at h; simp [h]

mutual
/-- a Node tells one well formed formula alone -/
theorem Den.inj {ns : List Nd} {i : Int} : ∀ {t t' : Tr}, t.well → t'.well → Den ns i t → Den ns i t' → t = t'
  | .mk op n kids, .mk op' n' kids', hw, hw', h, h' => by
    obtain ⟨j, ids, rfl, hg, hk⟩ := h
    obtain ⟨j', ids', e, hg', hk'⟩ := h'
    obtain rfl : j = j' := by omega
    rw [hg] at hg'
    have e2 : mkNd op n ids = mkNd op' n' ids' := by simpa using hg'
    have l1 := hk.length
    have l2 := hk'.length
    have kc : ∀ o : Int, 0 ≤ o → o < 12 → kidC o ≤ 2 := by
      intro o h1 h2
      obtain ⟨m, rfl⟩ := Int.eq_ofNat_of_zero_le h1
      match m, h2 with
      | 0, _ | 1, _ | 2, _ | 3, _ | 4, _ | 5, _ | 6, _ | 7, _ | 8, _ | 9, _ | 10, _ | 11, _ => decide
      | m + 12, h2 => omega
    have c1 := kc op hw.1.1 hw.1.2.1
    have c2 := kc op' hw'.1.1 hw'.1.2.1
    have d1 := hw.1.2.2.1
    have d2 := hw'.1.2.2.1
    obtain ⟨rfl, rfl, hn⟩ := mkNd_inj e2 (by omega) (by omega) (fun i hi => (hk.lt i hi).1) (fun i hi => (hk'.lt i hi).1)
    have ek : kids = kids' := Dens.inj hw.2 hw'.2 hk hk'
    subst ek
    have en : n = n' := by
      by_cases hz : kids = []
      · subst hz; exact hn (show ids = [] from hk)
      · have n1 := hw.1.2.2.2
        have n2 := hw'.1.2.2.2
        have hne : op ≠ 2 := by
          rintro rfl
          have k2 : kidC 2 = 0 := rfl
          have : kids.length = 0 := by omega
          exact hz (List.eq_nil_of_length_eq_zero this)
        simp [topN, hne] at n1 n2
        omega
    rw [en]
theorem Dens.inj {ns : List Nd} {ids : List Int} : ∀ {l l' : List Tr}, Tr.wells l → Tr.wells l' → Dens ns ids l → Dens ns ids l' → l = l'
  | [], [], _, _, _, _ => rfl
  | [], t :: r, _, _, h, h' => by
    obtain ⟨i, rest, e, _⟩ := h'
    rw [show ids = [] from h] at e; cases e
  | t :: r, [], _, _, h, h' => by
    obtain ⟨i, rest, e, _⟩ := h
    rw [show ids = [] from h'] at e; cases e
  | t :: r, t' :: r', hw, hw', h, h' => by
    obtain ⟨i, rest, rfl, h1, h2⟩ := h
    obtain ⟨i', rest', e, h3, h4⟩ := h'
    simp at e
    obtain ⟨rfl, rfl⟩ := e
    rw [Den.inj hw.1 hw'.1 h1 h3, Dens.inj hw.2 hw'.2 h2 h4]
end
end Go.Proofs.YtdbpdanocpfboaaDoor
