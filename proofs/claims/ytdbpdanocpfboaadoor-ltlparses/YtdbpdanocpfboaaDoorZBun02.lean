import Derived.Test.YtdbpdanocpfboaaDoorZMake
import Derived.Test.YtdbpdanocpfboaaDoorZKids
/- Formulas as trees, as lists of Nodes, and the walk through them: no program here but the Nodes' own shape. -/
namespace Go.Proofs.YtdbpdanocpfboaaDoor
open Go.RowKit

inductive Tr where
  | mk (op n : Int) (kids : List Tr)

namespace Tr
def op : Tr → Int | mk o _ _ => o
def n : Tr → Int | mk _ m _ => m
def kids : Tr → List Tr | mk _ _ k => k
mutual
def size : Tr → Nat
  | mk _ _ k => 1 + sizes k
def sizes : List Tr → Nat
  | [] => 0
  | t :: r => size t + sizes r
end
mutual
def well : Tr → Prop
  | mk o m k => wellN o m k.length ∧ wells k
def wells : List Tr → Prop
  | [] => True
  | t :: r => well t ∧ wells r
end
theorem size_pos (t : Tr) : 0 < t.size := by cases t; simp [size]; omega
theorem sizes_mem {t : Tr} : ∀ {l : List Tr}, t ∈ l → t.size ≤ sizes l
  | x :: r, h => by
    rcases List.mem_cons.1 h with rfl | h
    · simp [sizes]
    · have := sizes_mem h; simp [sizes]; omega
theorem size_kid {t k : Tr} (h : k ∈ t.kids) : k.size < t.size := by
  cases t with
  | mk o m l => have := sizes_mem (l := l) h; simp [size]; omega
theorem wells_iff : ∀ {l : List Tr}, wells l ↔ ∀ t ∈ l, t.well
  | [] => by simp [wells]
  | x :: r => by simp [wells, wells_iff (l := r)]
theorem well_kid {t k : Tr} (h : t.well) (hk : k ∈ t.kids) : k.well := by
  cases t with
  | mk o m l => exact wells_iff.1 h.2 k hk
end Tr

/-! ### Forms in memory -/
mutual
/-- the Form that lies at (b, o) reads as t; all of it below block B -/
def FormAt (B : Nat) (w : World) (b o : Nat) : Tr → Prop
  | .mk op n kids => b < B ∧ PlainB w b ∧ w.cell? ⟨b, o, none⟩ = some (.int .i64 op) ∧ w.cell? ⟨b, o + 1, none⟩ = some (.int .i64 n) ∧
      ∃ ka kb ko kc, w.cell? ⟨b, o + 2, none⟩ = some (.slice ka kids.length kc) ∧ (0 < kids.length → ka = some ⟨kb, ko, none⟩) ∧ FormsAt B w kb ko kids
def FormsAt (B : Nat) (w : World) (b o : Nat) : List Tr → Prop
  | [] => True
  | t :: r => FormAt B w b o t ∧ FormsAt B w b (o + 3) r
end

mutual
theorem FormAt.inj {B : Nat} {w : World} {b o : Nat} : ∀ {t t' : Tr}, FormAt B w b o t → FormAt B w b o t' → t = t'
  | .mk op n kids, .mk op' n' kids', h, h' => by
    obtain ⟨_, _, h0, h1, ka, kb, ko, kc, h2, hk, hf⟩ := h
    obtain ⟨_, _, g0, g1, ka', kb', ko', kc', g2, gk, gf⟩ := h'
    rw [h0] at g0; rw [h1] at g1; rw [h2] at g2
    simp at g0 g1 g2
    obtain ⟨e1, e2, e3⟩ := g2
    have ek : kids = kids' := by
      by_cases hz : 0 < kids.length
      · have a1 := hk hz
        have a2 := gk (by omega)
        rw [e1, a2] at a1
        simp at a1
        obtain ⟨rfl, rfl⟩ := a1
        exact FormsAt.inj e2 hf gf
      · have z1 : kids = [] := List.eq_nil_of_length_eq_zero (by omega)
        have z2 : kids' = [] := List.eq_nil_of_length_eq_zero (by omega)
        rw [z1, z2]
    rw [g0, g1, ek]
theorem FormsAt.inj {B : Nat} {w : World} {b o : Nat} : ∀ {l l' : List Tr}, l.length = l'.length → FormsAt B w b o l → FormsAt B w b o l' → l = l'
  | [], [], _, _, _ => rfl
  | t :: r, t' :: r', hl, h, h' => by
    have e1 := FormAt.inj h.1 h'.1
    have e2 := FormsAt.inj (by simpa using hl) h.2 h'.2
    rw [e1, e2]
end

mutual
theorem FormAt.below {B : Nat} {w w' : World} (hb : Below B w w') {b o : Nat} : ∀ {t : Tr}, FormAt B w b o t → FormAt B w' b o t
  | .mk op n kids, h => by
    obtain ⟨hB, hp, h0, h1, ka, kb, ko, kc, h2, hk, hf⟩ := h
    exact ⟨hB, hp.of_block (hb.block b hB), (hb.cell (p := ⟨b, o, none⟩) hB).trans h0, (hb.cell (p := ⟨b, o + 1, none⟩) hB).trans h1, ka, kb, ko, kc, (hb.cell (p := ⟨b, o + 2, none⟩) hB).trans h2, hk, FormsAt.below hb hf⟩
theorem FormsAt.below {B : Nat} {w w' : World} (hb : Below B w w') {b o : Nat} : ∀ {l : List Tr}, FormsAt B w b o l → FormsAt B w' b o l
  | [], _ => trivial
  | _ :: _, h => ⟨FormAt.below hb h.1, FormsAt.below hb h.2⟩
end
mutual
theorem FormAt.mono {B B' : Nat} {w : World} (hB : B ≤ B') {b o : Nat} : ∀ {t : Tr}, FormAt B w b o t → FormAt B' w b o t
  | .mk op n kids, h => by
    obtain ⟨h1, h2, h3, h4, ka, kb, ko, kc, h5, h6, h7⟩ := h
    exact ⟨Nat.lt_of_lt_of_le h1 hB, h2, h3, h4, ka, kb, ko, kc, h5, h6, FormsAt.mono hB h7⟩
theorem FormsAt.mono {B B' : Nat} {w : World} (hB : B ≤ B') {b o : Nat} : ∀ {l : List Tr}, FormsAt B w b o l → FormsAt B' w b o l
  | [], _ => trivial
  | _ :: _, h => ⟨FormAt.mono hB h.1, FormsAt.mono hB h.2⟩
end
theorem FormsAt.get {B : Nat} {w : World} : ∀ {l : List Tr} {b o j : Nat} {t : Tr}, FormsAt B w b o l → l[j]? = some t → FormAt B w b (o + j * 3) t
  | x :: r, b, o, 0, t, h, e => by simp at e; subst e; simpa using h.1
  | x :: r, b, o, j + 1, t, h, e => by
    have := FormsAt.get (j := j) h.2 (by simpa using e)
    have e2 : o + 3 + j * 3 = o + (j + 1) * 3 := by omega
    rwa [e2] at this

/-! ### Lists of Nodes -/
mutual
/-- Node number i is the formula t -/
def Den (ns : List Nd) (i : Int) : Tr → Prop
  | .mk op n kids => ∃ (j : Nat) (ids : List Int), i = (j : Int) ∧ ns[j]? = some (mkNd op n ids) ∧ Dens ns ids kids
def Dens (ns : List Nd) (ids : List Int) : List Tr → Prop
  | [] => ids = []
  | t :: r => ∃ i rest, ids = i :: rest ∧ Den ns i t ∧ Dens ns rest r
end

theorem get_prefix {α : Type} {l l' : List α} (h : l <+: l') {j : Nat} {x : α} (e : l[j]? = some x) : l'[j]? = some x := by
  obtain ⟨r, rfl⟩ := h
  have := (List.getElem?_eq_some_iff.1 e).1
  rw [List.getElem?_append_left this]; exact e
mutual
theorem Den.grow {ns ns' : List Nd} (h : ns <+: ns') {i : Int} : ∀ {t : Tr}, Den ns i t → Den ns' i t
  | .mk op n kids, hd => by
    obtain ⟨j, ids, e, hg, hk⟩ := hd
    exact ⟨j, ids, e, get_prefix h hg, Dens.grow h hk⟩
theorem Dens.grow {ns ns' : List Nd} (h : ns <+: ns') {ids : List Int} : ∀ {l : List Tr}, Dens ns ids l → Dens ns' ids l
  | [], hd => hd
  | _ :: _, hd => by
    obtain ⟨i, rest, e, h1, h2⟩ := hd
    exact ⟨i, rest, e, Den.grow h h1, Dens.grow h h2⟩
end
theorem Dens.length {ns : List Nd} : ∀ {ids : List Int} {l : List Tr}, Dens ns ids l → ids.length = l.length
  | ids, [], h => by rw [show ids = [] from h]; rfl
  | ids, t :: r, h => by
    obtain ⟨i, rest, rfl, _, h2⟩ := h
    simp [Dens.length h2]
theorem Dens.append {ns : List Nd} : ∀ {a b : List Int} {l r : List Tr}, Dens ns a l → Dens ns b r → Dens ns (a ++ b) (l ++ r)
  | a, b, [], r, h, h' => by rw [show a = [] from h]; exact h'
  | a, b, t :: l, r, h, h' => by
    obtain ⟨i, rest, rfl, h1, h2⟩ := h
    exact ⟨i, rest ++ b, rfl, h1, Dens.append h2 h'⟩
theorem Dens.split {ns : List Nd} : ∀ {ids : List Int} {l r : List Tr}, Dens ns ids (l ++ r) → ∃ a b, ids = a ++ b ∧ Dens ns a l ∧ Dens ns b r
  | ids, [], r, h => ⟨[], ids, rfl, rfl, h⟩
  | ids, t :: l, r, h => by
    obtain ⟨i, rest, rfl, h1, h2⟩ := h
    obtain ⟨a, b, rfl, h3, h4⟩ := Dens.split h2
    exact ⟨i :: a, b, rfl, ⟨i, a, rfl, h1, h3⟩, h4⟩
theorem Dens.one {ns : List Nd} {i : Int} {t : Tr} (h : Den ns i t) : Dens ns [i] [t] := ⟨i, [], rfl, h, rfl⟩
theorem Den.lt {ns : List Nd} {i : Int} {t : Tr} (h : Den ns i t) : 0 ≤ i ∧ i < ns.length := by
  cases t with
  | mk op n kids =>
    obtain ⟨j, ids, rfl, hg, _⟩ := h
    have := (List.getElem?_eq_some_iff.1 hg).1
    omega
theorem Dens.lt {ns : List Nd} : ∀ {ids : List Int} {l : List Tr}, Dens ns ids l → ∀ i ∈ ids, 0 ≤ i ∧ i < ns.length
  | ids, [], h => by rw [show ids = [] from h]; simp
  | ids, t :: r, h => by
    obtain ⟨i, rest, rfl, h1, h2⟩ := h
    intro x hx
    rcases List.mem_cons.1 hx with rfl | hx
    · exact h1.lt
    · exact Dens.lt h2 x hx

/-- what a Node made of ids tells of them -/
theorem mkNd_inj {op n op' n' : Int} {ids ids' : List Int} (h : mkNd op n ids = mkNd op' n' ids') (l : ids.length ≤ 2) (l' : ids'.length ≤ 2) (p : ∀ i ∈ ids, 0 ≤ i) (p' : ∀ i ∈ ids', 0 ≤ i) :
    op = op' ∧ ids = ids' ∧ (ids = [] → n = n') := by
  match ids, ids', h with
  | [], [], h => simpa [mkNd] using h
  | [], [a], h => have := p' a (by simp); simp [mkNd] at h; omega
  | [], a :: b :: r, h => have := p' a (by simp); simp [mkNd] at h; omega
  | [a], [], h => have := p a (by simp); simp [mkNd] at h; omega
  | [a], [b], h => simp [mkNd] at h; simp [h.1, h.2]
  | [a], b :: c :: r, h => have := p' c (by simp); simp [mkNd] at h; omega
  | a :: b :: r, [], h => have := p a (by simp); simp [mkNd] at h; omega
  | a :: b :: r, [c], h => have := p b (by simp); simp [mkNd] at h; omega
  | a :: b :: r, c :: d :: s, h =>
    have e1 : r = [] := List.eq_nil_of_length_eq_zero (by simp only [List.length_cons] at l; omega)
    have e2 : s = [] := List.eq_nil_of_length_eq_zero (by simp only [List.length_cons] at l'; omega)
    subst e1 e2
    simp [mkNd] at h; simp [h]

mutual
/-- a Node tells one well formed formula alone -/
theorem Den.inj {ns : List Nd} {i : Int} : ∀ {t t' : Tr}, t.well → t'.well → Den ns i t → Den ns i t' → t = t'
  | .mk op n kids, .mk op' n' kids', hw, hw', h, h' => by
    obtain ⟨j, ids, rfl, hg, hk⟩ := h
    obtain ⟨j', ids', e, hg', hk'⟩ := h'
    obtain rfl : j = j' := by omega
    rw [hg] at hg'
    have e2 : mkNd op n ids = mkNd op' n' ids' := by simpa using hg'
    have l1 := hk.length
    have l2 := hk'.length
    have kc : ∀ o : Int, 0 ≤ o → o < 12 → kidC o ≤ 2 := by
      intro o h1 h2
      obtain ⟨m, rfl⟩ := Int.eq_ofNat_of_zero_le h1
      match m, h2 with
      | 0, _ | 1, _ | 2, _ | 3, _ | 4, _ | 5, _ | 6, _ | 7, _ | 8, _ | 9, _ | 10, _ | 11, _ => decide
      | m + 12, h2 => omega
    have c1 := kc op hw.1.1 hw.1.2.1
    have c2 := kc op' hw'.1.1 hw'.1.2.1
    have d1 := hw.1.2.2.1
    have d2 := hw'.1.2.2.1
    obtain ⟨rfl, rfl, hn⟩ := mkNd_inj e2 (by omega) (by omega) (fun i hi => (hk.lt i hi).1) (fun i hi => (hk'.lt i hi).1)
    have ek : kids = kids' := Dens.inj hw.2 hw'.2 hk hk'
    subst ek
    have en : n = n' := by
      by_cases hz : kids = []
      · subst hz; exact hn (show ids = [] from hk)
      · have n1 := hw.1.2.2.2
        have n2 := hw'.1.2.2.2
        have hne : op ≠ 2 := by
          rintro rfl
          have k2 : kidC 2 = 0 := rfl
          have : kids.length = 0 := by omega
          exact hz (List.eq_nil_of_length_eq_zero this)
        simp [topN, hne] at n1 n2
        omega
    rw [en]
theorem Dens.inj {ns : List Nd} {ids : List Int} : ∀ {l l' : List Tr}, Tr.wells l → Tr.wells l' → Dens ns ids l → Dens ns ids l' → l = l'
  | [], [], _, _, _, _ => rfl
  | [], t :: r, _, _, h, h' => by
    obtain ⟨i, rest, e, _⟩ := h'
    rw [show ids = [] from h] at e; cases e
  | t :: r, [], _, _, h, h' => by
    obtain ⟨i, rest, e, _⟩ := h
    rw [show ids = [] from h'] at e; cases e
  | t :: r, t' :: r', hw, hw', h, h' => by
    obtain ⟨i, rest, rfl, h1, h2⟩ := h
    obtain ⟨i', rest', e, h3, h4⟩ := h'
    simp at e
    obtain ⟨rfl, rfl⟩ := e
    rw [Den.inj hw.1 hw'.1 h1 h3, Dens.inj hw.2 hw'.2 h2 h4]
end
end Go.Proofs.YtdbpdanocpfboaaDoor

/- A Form to be read alone. -/
namespace Go.Proofs.YtdbpdanocpfboaaDoor
open Go.RowKit

mutual
/-- the Form that lies at (b, o) reads as t; all of it below block B; to be read alone -/
def RAt (B : Nat) (w : World) (b o : Nat) : Tr → Prop
  | .mk op n kids => b < B ∧ w.cell? ⟨b, o, none⟩ = some (.int .i64 op) ∧ w.cell? ⟨b, o + 1, none⟩ = some (.int .i64 n) ∧
      ∃ ka kb ko kc, w.cell? ⟨b, o + 2, none⟩ = some (.slice ka kids.length kc) ∧ (0 < kids.length → ka = some ⟨kb, ko, none⟩) ∧ RsAt B w kb ko kids
def RsAt (B : Nat) (w : World) (b o : Nat) : List Tr → Prop
  | [] => True
  | t :: r => RAt B w b o t ∧ RsAt B w b (o + 3) r
end
mutual
theorem RAt.below {B : Nat} {w w' : World} (hb : Below B w w') {b o : Nat} : ∀ {t : Tr}, RAt B w b o t → RAt B w' b o t
  | .mk op n kids, h => by
    obtain ⟨hB, h0, h1, ka, kb, ko, kc, h2, hk, hf⟩ := h
    exact ⟨hB, (hb.cell (p := ⟨b, o, none⟩) hB).trans h0, (hb.cell (p := ⟨b, o + 1, none⟩) hB).trans h1, ka, kb, ko, kc, (hb.cell (p := ⟨b, o + 2, none⟩) hB).trans h2, hk, RsAt.below hb hf⟩
theorem RsAt.below {B : Nat} {w w' : World} (hb : Below B w w') {b o : Nat} : ∀ {l : List Tr}, RsAt B w b o l → RsAt B w' b o l
  | [], _ => trivial
  | _ :: _, h => ⟨RAt.below hb h.1, RsAt.below hb h.2⟩
end
theorem RsAt.get {B : Nat} {w : World} : ∀ {l : List Tr} {b o j : Nat} {t : Tr}, RsAt B w b o l → l[j]? = some t → RAt B w b (o + j * 3) t
  | x :: r, b, o, 0, t, h, e => by simp at e; subst e; simpa using h.1
  | x :: r, b, o, j + 1, t, h, e => by
    have := RsAt.get (j := j) h.2 (by simpa using e)
    have e2 : o + 3 + j * 3 = o + (j + 1) * 3 := by omega
    rwa [e2] at this
/-- the value v is the Form t, to be read alone -/
def RV (B : Nat) (w : World) (v : Value) : Tr → Prop
  | .mk op n kids => ∃ ka kb ko kc, v = .agg #[.int .i64 op, .int .i64 n, .slice ka kids.length kc] ∧ (0 < kids.length → ka = some ⟨kb, ko, none⟩) ∧ RsAt B w kb ko kids
theorem RV.below {B : Nat} {w w' : World} {v : Value} {t : Tr} (h : RV B w v t) (hb : Below B w w') : RV B w' v t := by
  cases t with
  | mk op n kids =>
    obtain ⟨ka, kb, ko, kc, e, h1, h2⟩ := h
    exact ⟨ka, kb, ko, kc, e, h1, RsAt.below hb h2⟩
theorem RV.agg {B : Nat} {w : World} {v : Value} {t : Tr} (h : RV B w v t) : ∃ op n a l c, v = .agg #[.int .i64 op, .int .i64 n, .slice a l c] := by
  obtain ⟨op, n, kids⟩ := t
  obtain ⟨ka, kb, ko, kc, e, _⟩ := h
  exact ⟨_, _, _, _, _, e⟩
mutual
theorem RAt.mono {B B' : Nat} {w : World} (hB : B ≤ B') {b o : Nat} : ∀ {t : Tr}, RAt B w b o t → RAt B' w b o t
  | .mk op n kids, h => by
    obtain ⟨h1, h3, h4, ka, kb, ko, kc, h5, h6, h7⟩ := h
    exact ⟨Nat.lt_of_lt_of_le h1 hB, h3, h4, ka, kb, ko, kc, h5, h6, RsAt.mono hB h7⟩
theorem RsAt.mono {B B' : Nat} {w : World} (hB : B ≤ B') {b o : Nat} : ∀ {l : List Tr}, RsAt B w b o l → RsAt B' w b o l
  | [], _ => trivial
  | _ :: _, h => ⟨RAt.mono hB h.1, RsAt.mono hB h.2⟩
end
theorem RV.mono {B B' : Nat} {w : World} {v : Value} {t : Tr} (h : RV B w v t) (hB : B ≤ B') : RV B' w v t := by
  cases t with
  | mk op n kids =>
    obtain ⟨ka, kb, ko, kc, e, h1, h2⟩ := h
    exact ⟨ka, kb, ko, kc, e, h1, RsAt.mono hB h2⟩
theorem RV.new {w w' : World} {v : Value} {t : Tr} (h : RV w.heap.size w v t) (hk : Kept (fun _ => False) w w') : RV w'.heap.size w' v t := (h.below (hk.below (Nat.le_refl _) (fun _ f => f.elim))).mono hk.size
theorem RAt.val {B : Nat} {w : World} {b o : Nat} {op n : Int} {ks : List Tr} (h : RAt B w b o (.mk op n ks)) : ∃ ka kc, w.cell? ⟨b, o, none⟩ = some (.int .i64 op) ∧ w.cell? ⟨b, o + 1, none⟩ = some (.int .i64 n) ∧ w.cell? ⟨b, o + 2, none⟩ = some (.slice ka ks.length kc) ∧ RV B w (.agg #[.int .i64 op, .int .i64 n, .slice ka ks.length kc]) (.mk op n ks) := by
  obtain ⟨_, h0, h1, ka, kb, ko, kc, h2, hk, hf⟩ := h
  exact ⟨ka, kc, h0, h1, h2, ka, kb, ko, kc, rfl, hk, hf⟩
theorem RV.leaf (B : Nat) (w : World) (op n : Int) : RV B w (.agg #[.int .i64 op, .int .i64 n, .slice none 0 0]) (.mk op n []) := ⟨none, 0, 0, 0, rfl, by simp, trivial⟩
mutual
/-- the Form that lies at (b, o) reads as t; all of it in blocks of S; to be read alone -/
def RS (S : Nat → Prop) (w : World) (b o : Nat) : Tr → Prop
  | .mk op n kids => S b ∧ w.cell? ⟨b, o, none⟩ = some (.int .i64 op) ∧ w.cell? ⟨b, o + 1, none⟩ = some (.int .i64 n) ∧
      ∃ ka kb ko kc, w.cell? ⟨b, o + 2, none⟩ = some (.slice ka kids.length kc) ∧ (0 < kids.length → ka = some ⟨kb, ko, none⟩) ∧ RsS S w kb ko kids
def RsS (S : Nat → Prop) (w : World) (b o : Nat) : List Tr → Prop
  | [] => True
  | t :: r => RS S w b o t ∧ RsS S w b (o + 3) r
end
mutual
theorem RS.keep {S S' : Nat → Prop} {w w' : World} (hs : ∀ b, S b → S' b) (hb : ∀ b, S b → w'.heap[b]? = w.heap[b]?) {b o : Nat} : ∀ {t : Tr}, RS S w b o t → RS S' w' b o t
  | .mk op n kids, h => by
    obtain ⟨hB, h0, h1, ka, kb, ko, kc, h2, hk, hf⟩ := h
    exact ⟨hs b hB, (World.cell?_of_block (w := w) (a := ⟨b, o, none⟩) (hb b hB)).trans h0, (World.cell?_of_block (w := w) (a := ⟨b, o + 1, none⟩) (hb b hB)).trans h1, ka, kb, ko, kc, (World.cell?_of_block (w := w) (a := ⟨b, o + 2, none⟩) (hb b hB)).trans h2, hk, RsS.keep hs hb hf⟩
theorem RsS.keep {S S' : Nat → Prop} {w w' : World} (hs : ∀ b, S b → S' b) (hb : ∀ b, S b → w'.heap[b]? = w.heap[b]?) {b o : Nat} : ∀ {l : List Tr}, RsS S w b o l → RsS S' w' b o l
  | [], _ => trivial
  | _ :: _, h => ⟨RS.keep hs hb h.1, RsS.keep hs hb h.2⟩
end
mutual
theorem RS.rat {S : Nat → Prop} {B : Nat} {w : World} (hs : ∀ b, S b → b < B) {b o : Nat} : ∀ {t : Tr}, RS S w b o t → RAt B w b o t
  | .mk op n kids, h => by
    obtain ⟨hB, h0, h1, ka, kb, ko, kc, h2, hk, hf⟩ := h
    exact ⟨hs b hB, h0, h1, ka, kb, ko, kc, h2, hk, RsS.rat hs hf⟩
theorem RsS.rat {S : Nat → Prop} {B : Nat} {w : World} (hs : ∀ b, S b → b < B) {b o : Nat} : ∀ {l : List Tr}, RsS S w b o l → RsAt B w b o l
  | [], _ => trivial
  | _ :: _, h => ⟨RS.rat hs h.1, RsS.rat hs h.2⟩
end
/-- the value v is the Form t, all of it in blocks of S, to be read alone -/
def RVS (S : Nat → Prop) (w : World) (v : Value) : Tr → Prop
  | .mk op n kids => ∃ ka kb ko kc, v = .agg #[.int .i64 op, .int .i64 n, .slice ka kids.length kc] ∧ (0 < kids.length → ka = some ⟨kb, ko, none⟩) ∧ RsS S w kb ko kids
theorem RVS.keep {S S' : Nat → Prop} {w w' : World} {v : Value} {t : Tr} (h : RVS S w v t) (hs : ∀ b, S b → S' b) (hb : ∀ b, S b → w'.heap[b]? = w.heap[b]?) : RVS S' w' v t := by
  cases t with
  | mk op n kids =>
    obtain ⟨ka, kb, ko, kc, e, h1, h2⟩ := h
    exact ⟨ka, kb, ko, kc, e, h1, RsS.keep hs hb h2⟩
theorem RVS.rv {S : Nat → Prop} {B : Nat} {w : World} {v : Value} {t : Tr} (h : RVS S w v t) (hs : ∀ b, S b → b < B) : RV B w v t := by
  cases t with
  | mk op n kids =>
    obtain ⟨ka, kb, ko, kc, e, h1, h2⟩ := h
    exact ⟨ka, kb, ko, kc, e, h1, RsS.rat hs h2⟩
theorem RVS.agg {S : Nat → Prop} {w : World} {v : Value} {t : Tr} (h : RVS S w v t) : ∃ op n a l c, v = .agg #[.int .i64 op, .int .i64 n, .slice a l c] := by
  obtain ⟨op, n, kids⟩ := t
  obtain ⟨ka, kb, ko, kc, e, _⟩ := h
  exact ⟨_, _, _, _, _, e⟩
theorem RVS.leaf (S : Nat → Prop) (w : World) (op n : Int) : RVS S w (.agg #[.int .i64 op, .int .i64 n, .slice none 0 0]) (.mk op n []) := ⟨none, 0, 0, 0, rfl, by simp, trivial⟩
/-- what is kept keeps it -/
theorem RVS.kept {S : Nat → Prop} {w w' : World} {v : Value} {t : Tr} (h : RVS S w v t) (hk : Kept (fun _ => False) w w') (hs : ∀ b, S b → b < w.heap.size) : RVS S w' v t := h.keep (fun _ hb => hb) (fun b hb => hk.block b (hs b hb) (fun f => f))
theorem RVS.set {S : Nat → Prop} {w : World} {v : Value} {t : Tr} (h : RVS S w v t) {p : Addr} (hp : ¬ S p.block) (u : Value) : RVS S (w.setCell p u) v t := h.keep (fun _ hb => hb) (fun _ hb => Below.heap_setCell _ _ _ _ (fun e => hp (e ▸ hb)))
end Go.Proofs.YtdbpdanocpfboaaDoor

/- What the walk of package nodes keeps: its stack, its numbers, what it has found. -/
namespace Go.Proofs.YtdbpdanocpfboaaDoor
open Go.RowKit

/-- something to enter, or, if it has been entered, to leave -/
structure Task where
  ent : Bool
  b : Nat
  o : Nat
  t : Tr

def ptrV (b o : Nat) : Value := .pointer (some ⟨b, o, none⟩)
def Task.kl (k : Task) : Nat := if k.ent then k.t.kids.length else 0
def Task.cells (k : Task) : List Value := [ptrV k.b k.o, .bool k.ent, .int .i64 (k.kl : Int)]
def Task.wt (k : Task) : Nat := if k.ent then 1 else 2 * k.t.size
def wts : List Task → Nat
  | [] => 0
  | k :: s => k.wt + wts s
theorem wts_append (a b : List Task) : wts (a ++ b) = wts a + wts b := by
  induction a with
  | nil => simp [wts]
  | cons k s ih => simp [wts, ih]; omega
theorem length_le_wts (st : List Task) : st.length ≤ wts st := by
  induction st with
  | nil => simp
  | cons k s ih =>
    have : 0 < k.wt := by
      unfold Task.wt
      split
      · omega
      · have := k.t.size_pos; omega
    simp [wts]; omega

/-- the tasks to enter the Forms of a row -/
def kidTasks (b o : Nat) : List Tr → List Task
  | [] => []
  | t :: r => ⟨false, b, o, t⟩ :: kidTasks b (o + 3) r
theorem kidTasks_mem {k : Task} : ∀ {l : List Tr} {b o : Nat}, k ∈ kidTasks b o l → k.ent = false ∧ k.t ∈ l
  | t :: r, b, o, h => by
    rcases List.mem_cons.1 h with rfl | h
    · simp
    · have := kidTasks_mem h; exact ⟨this.1, List.mem_cons_of_mem _ this.2⟩
theorem kidTasks_wts (l : List Tr) : ∀ (b o : Nat), wts (kidTasks b o l) = 2 * Tr.sizes l := by
  induction l with
  | nil => intros; rfl
  | cons t r ih => intro b o; simp [kidTasks, wts, ih, Tr.sizes, Task.wt]; omega

section
variable (F : Nat → Nat → Tr → Prop) (root : Tr)
/-- from the top on, ts being what has been numbered: in the end the root alone has been -/
def Val : List Task → List Tr → Prop
  | [], ts => ts = [root]
  | k :: s, ts => F k.b k.o k.t ∧ match k.ent with
    | true => wellN k.t.op k.t.n k.t.kids.length ∧ ∃ ts', ts = ts' ++ k.t.kids ∧ Val s (ts' ++ [k.t])
    | false => Val s (ts ++ [k.t])
def SizeOk : List Task → Prop
  | [] => True
  | k :: s => (∀ k' ∈ s, k'.ent = true → k.t.size < k'.t.size) ∧ SizeOk s
def Bot : List Task → Prop
  | [] => True
  | k :: s => (s = [] → k.t = root) ∧ (s ≠ [] → k.t.size < root.size) ∧ Bot s
/-- each Node's Kids stand ahead of it; it is well formed -/
def Ord (ns : List Nd) : Prop := ∀ (j : Nat) (x : Nd), ns[j]? = some x → ∃ (op n : Int) (ids : List Int), x = mkNd op n ids ∧ wellN op n ids.length ∧ ∀ i ∈ ids, 0 ≤ i ∧ i < j

structure GS (st : List Task) (nums : List Int) (ns : List Nd) (m : Value → Option Value) : Prop where
  ts : ∃ ts, Val F root st ts ∧ Dens ns nums ts ∧ Tr.wells ts
  sz : SizeOk st
  bot : Bot root st
  found : ∀ v x, m v = some x → ∃ b o t, v = ptrV b o ∧ F b o t ∧ ((∃ i : Int, x = .int .i64 i ∧ Den ns i t ∧ t.well) ∨ (x = .int .i64 (-1) ∧ ∃ k ∈ st, k.ent = true ∧ k.b = b ∧ k.o = o ∧ k.t = t))
  wr : root.well → ∀ k ∈ st, k.t.well
  nodes : ∀ j : Nat, j < ns.length → ∃ t, Den ns j t ∧ t.well ∧ (st ≠ [] → t.size < root.size)
  last : st = [] → nums = [(ns.length : Int) - 1]
  ord : Ord ns
  b1 : nums.length + wts st ≤ 2 * root.size
  b2 : ns.length + wts st ≤ 2 * root.size
end

theorem val_kids {F : Nat → Nat → Tr → Prop} {root : Tr} {s : List Task} : ∀ {l : List Tr} {b o : Nat} {ts : List Tr}, (∀ j k, l[j]? = some k → F b (o + j * 3) k) → Val F root s (ts ++ l) → Val F root (kidTasks b o l ++ s) ts
  | [], b, o, ts, _, h => by simpa [kidTasks] using h
  | t :: r, b, o, ts, hF, h => by
    refine ⟨by simpa using hF 0 t (by simp), ?_⟩
    refine val_kids (fun j k hk => ?_) (by simpa using h)
    have := hF (j + 1) k (by simpa using hk)
    rwa [show o + (j + 1) * 3 = o + 3 + j * 3 by omega] at this

section
variable {F : Nat → Nat → Tr → Prop} {root : Tr} {b o : Nat} {t : Tr} {s : List Task} {nums : List Int} {ns : List Nd} {m : Value → Option Value}

theorem ptrV_inj {b o b' o' : Nat} (h : ptrV b o = ptrV b' o') : b = b' ∧ o = o' := by simpa [ptrV] using h

theorem kidC_le {op : Int} (h1 : 0 ≤ op) (h2 : op < 12) : kidC op ≤ 2 := by
  obtain ⟨m, rfl⟩ := Int.eq_ofNat_of_zero_le h1
  match m, h2 with
  | 0, _ | 1, _ | 2, _ | 3, _ | 4, _ | 5, _ | 6, _ | 7, _ | 8, _ | 9, _ | 10, _ | 11, _ => decide
  | m + 12, h2 => omega
theorem wellN_le {op n : Int} {k : Nat} (h : wellN op n k) : k ≤ 2 := by
  have := kidC_le h.1 h.2.1
  have := h.2.2.1
  omega

/-- a Form found is none that is open -/
theorem GS.hit (inj : ∀ {b o t t'}, F b o t → F b o t' → t = t') (h : GS F root (⟨false, b, o, t⟩ :: s) nums ns m) {x : Value} (hm : m (ptrV b o) = some x) :
    ∃ i : Int, x = .int .i64 i ∧ 0 ≤ i ∧ GS F root s (nums ++ [i]) ns m := by
  obtain ⟨ts, hv, hd, hw⟩ := h.ts
  obtain ⟨b', o', t', e, hF, hx⟩ := h.found _ _ hm
  obtain ⟨rfl, rfl⟩ := ptrV_inj e
  obtain ⟨hF0, hv'⟩ := hv
  dsimp only at hF0 hv'
  obtain rfl := inj hF0 hF
  rcases hx with ⟨i, rfl, hden, hwt⟩ | ⟨rfl, k, hk, hent, kb, ko, kt⟩
  · refine ⟨i, rfl, hden.lt.1, ?_⟩
    have hne : s ≠ [] := by
      rintro rfl
      have ht : t = root := h.bot.1 rfl
      subst ht
      obtain ⟨t', hden', hwt', hs⟩ := h.nodes i.toNat (by have := hden.lt; omega)
      have hi : ((i.toNat : Nat) : Int) = i := by have := hden.lt; omega
      rw [hi] at hden'
      have e3 := Den.inj hwt hwt' hden hden'
      subst e3
      have := hs (by simp)
      omega
    have hpos := t.size_pos
    refine ⟨⟨ts ++ [t], hv', Dens.append hd (Dens.one hden), Tr.wells_iff.2 (fun y hy => ?_)⟩, h.sz.2, h.bot.2.2, ?_, fun hr k hk => h.wr hr k (by simp [hk]), fun j hj => ?_, fun e => absurd e hne, h.ord, ?_, ?_⟩
    · rcases List.mem_append.1 hy with hy | hy
      · exact Tr.wells_iff.1 hw y hy
      · simp at hy; subst hy; exact hwt
    · intro v x hvx
      obtain ⟨b2, o2, t2, e2, hF2, hx2⟩ := h.found v x hvx
      refine ⟨b2, o2, t2, e2, hF2, hx2.imp id ?_⟩
      rintro ⟨e3, k, hk, hk2⟩
      refine ⟨e3, k, ?_, hk2⟩
      rcases List.mem_cons.1 hk with rfl | hk
      · simp at hk2
      · exact hk
    · obtain ⟨t2, a1, a2, a3⟩ := h.nodes j hj
      exact ⟨t2, a1, a2, fun _ => a3 (by simp)⟩
    · have := h.b1; simp [wts, Task.wt] at this ⊢; omega
    · have := h.b2; simp [wts, Task.wt] at this ⊢; omega
  · exfalso
    rcases List.mem_cons.1 hk with rfl | hk
    · simp at hent
    · have := h.sz.1 k hk hent
      rw [kt] at this
      simp at this

/-- a Form that is none: the root is none -/
theorem GS.bad (h : GS F root (⟨false, b, o, t⟩ :: s) nums ns m) (hw : ¬ wellN t.op t.n t.kids.length) : ¬ root.well := by
  intro hr
  have := h.wr hr ⟨false, b, o, t⟩ (by simp)
  cases t with
  | mk op n kids => exact hw this.1

theorem GS.enter (h : GS F root (⟨false, b, o, t⟩ :: s) nums ns m) (hw : wellN t.op t.n t.kids.length) {kb ko : Nat} (hk : ∀ j k, t.kids[j]? = some k → F kb (ko + j * 3) k)
    {m' : Value → Option Value} (h1 : m' (ptrV b o) = some (.int .i64 (-1))) (h2 : ∀ v, v ≠ ptrV b o → m' v = m v) : GS F root (kidTasks kb ko t.kids ++ ⟨true, b, o, t⟩ :: s) nums ns m' := by
  obtain ⟨ts, hv, hd, hwt⟩ := h.ts
  obtain ⟨hF0, hv'⟩ := hv
  dsimp only at hF0 hv'
  have hne : kidTasks kb ko t.kids ++ ⟨true, b, o, t⟩ :: s ≠ [] := by simp
  have hsz : ∀ l : List Tr, (∀ k ∈ l, k.size < t.size) → ∀ b' o', SizeOk (kidTasks b' o' l ++ ⟨true, b, o, t⟩ :: s) := by
    intro l
    induction l with
    | nil => intro _ b' o'; exact ⟨fun k' hk' he => h.sz.1 k' hk' he, h.sz.2⟩
    | cons x r ih =>
      intro hl b' o'
      refine ⟨fun k' hk' he => ?_, ih (fun k hk => hl k (by simp [hk])) b' (o' + 3)⟩
      have hx := hl x (by simp)
      rcases List.mem_append.1 hk' with hk' | hk'
      · have := (kidTasks_mem hk').1; rw [this] at he; cases he
      · rcases List.mem_cons.1 hk' with rfl | hk'
        · exact hx
        · have := h.sz.1 k' hk' he; simp at this ⊢; omega
  have hsr : t.size ≤ root.size := by
    by_cases hs : s = []
    · have e : t = root := h.bot.1 hs
      rw [e]; exact Nat.le_refl _
    · have : t.size < root.size := h.bot.2.1 hs
      omega
  have hbot : ∀ l : List Tr, (∀ k ∈ l, k.size < t.size) → ∀ b' o', Bot root (kidTasks b' o' l ++ ⟨true, b, o, t⟩ :: s) := by
    intro l
    induction l with
    | nil => intro _ b' o'; exact h.bot
    | cons x r ih =>
      intro hl b' o'
      refine ⟨fun e => by simp at e, fun _ => ?_, ih (fun k hk => hl k (by simp [hk])) b' (o' + 3)⟩
      have := hl x (by simp)
      simp; omega
  have hkid : ∀ k ∈ t.kids, k.size < t.size := fun k hk => Tr.size_kid hk
  have hwts : wts (kidTasks kb ko t.kids ++ ⟨true, b, o, t⟩ :: s) + 1 = wts (⟨false, b, o, t⟩ :: s) := by
    rw [wts_append, kidTasks_wts]
    cases t with
    | mk op n kids => simp [wts, Task.wt, Tr.size, Tr.kids]; omega
  refine ⟨⟨ts, val_kids hk ⟨hF0, hw, ts, rfl, hv'⟩, hd, hwt⟩, hsz _ hkid _ _, hbot _ hkid _ _, ?_, ?_, fun j hj => ?_, fun e => absurd e hne, h.ord, ?_, ?_⟩
  · intro v x hx
    by_cases e : v = ptrV b o
    · subst e
      rw [h1] at hx
      cases hx
      exact ⟨b, o, t, rfl, hF0, .inr ⟨rfl, ⟨true, b, o, t⟩, by simp, rfl, rfl, rfl, rfl⟩⟩
    · rw [h2 v e] at hx
      obtain ⟨b2, o2, t2, e2, hF2, hx2⟩ := h.found v x hx
      refine ⟨b2, o2, t2, e2, hF2, hx2.imp id ?_⟩
      rintro ⟨e3, k, hk, hk2⟩
      refine ⟨e3, k, ?_, hk2⟩
      rcases List.mem_cons.1 hk with rfl | hk
      · simp at hk2
      · simp [hk]
  · intro hr k hk
    have ht := h.wr hr ⟨false, b, o, t⟩ (by simp)
    rcases List.mem_append.1 hk with hk | hk
    · exact Tr.well_kid ht (kidTasks_mem hk).2
    · rcases List.mem_cons.1 hk with rfl | hk
      · exact ht
      · exact h.wr hr k (by simp [hk])
  · obtain ⟨t2, a1, a2, a3⟩ := h.nodes j hj
    exact ⟨t2, a1, a2, fun _ => a3 (by simp)⟩
  · have := h.b1; omega
  · have := h.b2; omega

theorem GS.leave (h : GS F root (⟨true, b, o, t⟩ :: s) nums ns m) : ∃ pre ids : List Int, nums = pre ++ ids ∧ ids.length = t.kids.length ∧ ids.length ≤ 2 ∧ F b o t ∧
    ∀ (i : Nat) (ns' : List Nd) (m' : Value → Option Value), ((ns' = ns ∧ ns[i]? = some (mkNd t.op t.n ids)) ∨ (ns' = ns ++ [mkNd t.op t.n ids] ∧ i = ns.length)) → m' (ptrV b o) = some (.int .i64 (i : Int)) → (∀ v, v ≠ ptrV b o → m' v = m v) → GS F root s (pre ++ [(i : Int)]) ns' m' := by
  obtain ⟨ts, ⟨hF0, hn, ts', rfl, hv⟩, hd, hw⟩ := h.ts
  dsimp only at hF0 hn hv
  obtain ⟨pre, ids, rfl, hd1, hd2⟩ := hd.split
  dsimp only at hd2
  refine ⟨pre, ids, rfl, hd2.length, by have := wellN_le hn; have := hd2.length; omega, hF0, ?_⟩
  intro i ns' m' hcase hm1 hm2
  have hwt : t.well := by
    cases t with
    | mk op n kids => exact ⟨hn, Tr.wells_iff.2 (fun y hy => Tr.wells_iff.1 hw y (by simp [Tr.kids, hy]))⟩
  have hpre : ns <+: ns' := by
    rcases hcase with ⟨rfl, _⟩ | ⟨rfl, _⟩
    · exact List.prefix_refl _
    · exact List.prefix_append _ _
  have hget : ns'[i]? = some (mkNd t.op t.n ids) := by
    rcases hcase with ⟨rfl, e⟩ | ⟨rfl, e⟩
    · exact e
    · subst e; simp
  have hlen : ns'.length ≤ ns.length + 1 := by
    rcases hcase with ⟨rfl, e⟩ | ⟨rfl, e⟩
    · omega
    · simp
  have hden : Den ns' (i : Int) t := by
    cases t with
    | mk op n kids => exact ⟨i, ids, rfl, hget, hd2.grow hpre⟩
  -- the root's Node is new
  have hroot : s = [] → ns' = ns ++ [mkNd t.op t.n ids] ∧ i = ns.length := by
    intro hs
    rcases hcase with ⟨rfl, e⟩ | hc
    · exfalso
      obtain ⟨t2, a1, a2, a3⟩ := h.nodes i (List.getElem?_eq_some_iff.1 e).1
      have e2 := Den.inj hwt a2 hden a1
      have e3 := a3 (by simp)
      have e4 : t = root := h.bot.1 hs
      rw [← e2, e4] at e3
      omega
    · exact hc
  refine ⟨⟨ts' ++ [t], hv, Dens.append (hd1.grow hpre) (Dens.one hden), Tr.wells_iff.2 (fun y hy => ?_)⟩, h.sz.2, h.bot.2.2, ?_, fun hr k hk => h.wr hr k (by simp [hk]), fun j hj => ?_, ?_, ?_, ?_, ?_⟩
  · rcases List.mem_append.1 hy with hy | hy
    · exact Tr.wells_iff.1 hw y (by simp [hy])
    · simp at hy; subst hy; exact hwt
  · intro v x hx
    by_cases e : v = ptrV b o
    · subst e
      rw [hm1] at hx
      cases hx
      exact ⟨b, o, t, rfl, hF0, .inl ⟨_, rfl, hden, hwt⟩⟩
    · rw [hm2 v e] at hx
      obtain ⟨b2, o2, t2, e2, hF2, hx2⟩ := h.found v x hx
      refine ⟨b2, o2, t2, e2, hF2, ?_⟩
      rcases hx2 with ⟨i2, e3, d3, w3⟩ | ⟨e3, k, hk, hk2⟩
      · exact .inl ⟨i2, e3, d3.grow hpre, w3⟩
      · refine .inr ⟨e3, k, ?_, hk2⟩
        rcases List.mem_cons.1 hk with rfl | hk
        · exfalso
          apply e
          rw [e2, ← hk2.2.1, ← hk2.2.2.1]
        · exact hk
  · by_cases hj' : j < ns.length
    · obtain ⟨t2, a1, a2, a3⟩ := h.nodes j hj'
      exact ⟨t2, a1.grow hpre, a2, fun _ => a3 (by simp)⟩
    · rcases hcase with ⟨rfl, e⟩ | ⟨rfl, e⟩
      · exact absurd hj hj'
      · have : j = i := by simp at hj; omega
        subst this
        exact ⟨t, hden, hwt, fun hs => h.bot.2.1 hs⟩
  · intro hs
    obtain ⟨e1, e2⟩ := hroot hs
    subst hs
    have hp : pre = [] := by
      have hv' : ts' ++ [t] = [root] := hv
      have : ts' = [] := by
        cases ts' with
        | nil => rfl
        | cons a r => simp at hv'
      subst this
      exact hd1
    subst hp
    rw [e1, e2]
    simp
  · intro j x hx
    by_cases hj : j < ns.length
    · obtain ⟨r, rfl⟩ := hpre
      rw [List.getElem?_append_left hj] at hx
      exact h.ord j x hx
    · rcases hcase with ⟨rfl, e⟩ | ⟨rfl, e⟩
      · exact absurd (List.getElem?_eq_some_iff.1 hx).1 hj
      · have hj2 := (List.getElem?_eq_some_iff.1 hx).1
        simp at hj2
        have : j = ns.length := by omega
        subst this
        simp at hx
        refine ⟨t.op, t.n, ids, hx.symm, by rw [hd2.length]; exact hn, fun i hi => ?_⟩
        have := hd2.lt i hi
        omega
  · have := h.b1
    simp [wts, Task.wt] at this ⊢
    omega
  · have := h.b2
    simp [wts, Task.wt] at this ⊢
    omega

/-- the end -/
theorem GS.fin (h : GS F root [] nums ns m) : root.well ∧ nums = [(ns.length : Int) - 1] ∧ Den ns ((ns.length : Int) - 1) root ∧ Ord ns := by
  obtain ⟨ts, hv, hd, hw⟩ := h.ts
  have e : ts = [root] := hv
  subst e
  have hl := h.last rfl
  refine ⟨hw.1, hl, ?_, h.ord⟩
  obtain ⟨i, rest, e, h1, h2⟩ := hd
  rw [hl] at e
  simp at e
  rw [e.1]
  exact h1
end
end Go.Proofs.YtdbpdanocpfboaaDoor
