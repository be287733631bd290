/- What a formula means on letters without an end; and that the rows say it. -/
import Derived.Test.YtdbpdanocpfboaaDoorVHolds
import Derived.Test.YtdbpdanocpfboaaDoorVWords
namespace Go.Proofs.YtdbpdanocpfboaaDoor
open Go.RowKit

/-- a Node's truth, of whose Kids that is told -/
def opP (op n : Int) (x : Nat → Int) (a b : Nat → Prop) (i : Nat) : Prop :=
  if op = 0 then True
  else if op = 2 then bitB (x i) n = true
  else if op = 3 then ¬ a i
  else if op = 4 then a i ∧ b i
  else if op = 5 then a i ∨ b i
  else if op = 6 then (¬ a i) ∨ b i
  else if op = 7 then a (i + 1)
  else if op = 8 then ∃ j, i ≤ j ∧ b j ∧ ∀ m, i ≤ m → m < j → a m
  else if op = 9 then ∀ j, i ≤ j → b j ∨ ∃ m, i ≤ m ∧ m < j ∧ a m
  else if op = 10 then ∃ j, i ≤ j ∧ a j
  else if op = 11 then ∀ j, i ≤ j → a j
  else False
mutual
/-- a formula's truth at a place of letters without an end -/
def satT (x : Nat → Int) : Tr → Nat → Prop
  | .mk op n kids => opP op n x ((satTs x kids).getD 0 (fun _ => False)) ((satTs x kids).getD 1 (fun _ => False))
def satTs (x : Nat → Int) : List Tr → List (Nat → Prop)
  | [] => []
  | t :: r => satT x t :: satTs x r
end

theorem opP_shift {op n : Int} {x y : Nat → Int} {a b a' b' : Nat → Prop} {k : Nat} (hx : ∀ i, y i = x (k + i)) (ha : ∀ i, a' i ↔ a (k + i)) (hb : ∀ i, b' i ↔ b (k + i)) (i : Nat) : opP op n y a' b' i ↔ opP op n x a b (k + i) := by
  unfold opP
  by_cases h0 : op = 0
  · simp only [if_pos h0]
  simp only [if_neg h0]
  by_cases h2 : op = 2
  · simp only [if_pos h2, hx]
  simp only [if_neg h2]
  by_cases h3 : op = 3
  · simp only [if_pos h3, ha]
  simp only [if_neg h3]
  by_cases h4 : op = 4
  · simp only [if_pos h4, ha, hb]
  simp only [if_neg h4]
  by_cases h5 : op = 5
  · simp only [if_pos h5, ha, hb]
  simp only [if_neg h5]
  by_cases h6 : op = 6
  · simp only [if_pos h6, ha, hb]
  simp only [if_neg h6]
  by_cases h7 : op = 7
  · simp only [if_pos h7, ha, Nat.add_assoc]
  simp only [if_neg h7]
  by_cases h8 : op = 8
  · simp only [if_pos h8]
    constructor
    · rintro ⟨j, h1, h2, h3⟩
      exact ⟨k + j, by omega, (hb j).1 h2, fun m hm1 hm2 => by
        obtain ⟨m', rfl⟩ : ∃ m', m = k + m' := ⟨m - k, by omega⟩
        exact (ha m').1 (h3 m' (by omega) (by omega))⟩
    · rintro ⟨j, h1, h2, h3⟩
      obtain ⟨j', rfl⟩ : ∃ j', j = k + j' := ⟨j - k, by omega⟩
      exact ⟨j', by omega, (hb j').2 h2, fun m hm1 hm2 => (ha m).2 (h3 (k + m) (by omega) (by omega))⟩
  simp only [if_neg h8]
  by_cases h9 : op = 9
  · simp only [if_pos h9]
    constructor
    · intro h j hj
      obtain ⟨j', rfl⟩ : ∃ j', j = k + j' := ⟨j - k, by omega⟩
      rcases h j' (by omega) with h | ⟨m, h1, h2, h3⟩
      · exact .inl ((hb j').1 h)
      · exact .inr ⟨k + m, by omega, by omega, (ha m).1 h3⟩
    · intro h j hj
      rcases h (k + j) (by omega) with h | ⟨m, h1, h2, h3⟩
      · exact .inl ((hb j).2 h)
      · obtain ⟨m', rfl⟩ : ∃ m', m = k + m' := ⟨m - k, by omega⟩
        exact .inr ⟨m', by omega, by omega, (ha m').2 h3⟩
  simp only [if_neg h9]
  by_cases h10 : op = 10
  · simp only [if_pos h10]
    constructor
    · rintro ⟨j, h1, h2⟩
      exact ⟨k + j, by omega, (ha j).1 h2⟩
    · rintro ⟨j, h1, h2⟩
      obtain ⟨j', rfl⟩ : ∃ j', j = k + j' := ⟨j - k, by omega⟩
      exact ⟨j', by omega, (ha j').2 h2⟩
  simp only [if_neg h10]
  by_cases h11 : op = 11
  · simp only [if_pos h11]
    constructor
    · intro h j hj
      obtain ⟨j', rfl⟩ : ∃ j', j = k + j' := ⟨j - k, by omega⟩
      exact (ha j').1 (h j' (by omega))
    · intro h j hj
      exact (ha j).2 (h (k + j) (by omega))
  simp only [if_neg h11]
mutual
theorem satT_shift {x y : Nat → Int} {k : Nat} (hx : ∀ i, y i = x (k + i)) : ∀ (t : Tr) (i : Nat), satT y t i ↔ satT x t (k + i)
  | .mk op n kids, i => by
    unfold satT
    exact opP_shift hx (satTs_shift hx kids 0) (satTs_shift hx kids 1) i
theorem satTs_shift {x y : Nat → Int} {k : Nat} (hx : ∀ i, y i = x (k + i)) : ∀ (l : List Tr) (j i : Nat), (satTs y l).getD j (fun _ => False) i ↔ (satTs x l).getD j (fun _ => False) (k + i)
  | [], j, i => by simp [satTs]
  | t :: r, 0, i => by simpa [satTs] using satT_shift hx t i
  | t :: r, j + 1, i => by simpa [satTs] using satTs_shift hx r j i
end

/-- the place behind so many steps, of n places whose last leads back to L -/
def pl (n L : Nat) : Nat → Nat
  | 0 => 0
  | i + 1 => if pl n L i + 1 = n then L else pl n L i + 1
theorem pl_lt {n L : Nat} (h : L < n) : ∀ i, pl n L i < n
  | 0 => by simp [pl]; omega
  | i + 1 => by have := pl_lt h i; simp only [pl]; split <;> omega
theorem pl_id {n L : Nat} : ∀ i, i < n → pl n L i = i
  | 0, _ => rfl
  | i + 1, hi => by rw [pl, pl_id i (by omega), if_neg (by omega)]
/-- from any place on the loop's beginning is come to -/
theorem pl_loop {n L : Nat} (h : L < n) (i : Nat) : ∃ j, i ≤ j ∧ pl n L j = L := by
  have : ∀ d i, n - pl n L i = d → ∃ j, i ≤ j ∧ pl n L j = L := by
    intro d
    induction d using Nat.strongRecOn with
    | _ d ih =>
      intro i hd
      have hl := pl_lt h i
      by_cases he : pl n L i + 1 = n
      · exact ⟨i + 1, by omega, by rw [pl, if_pos he]⟩
      · have e : pl n L (i + 1) = pl n L i + 1 := by rw [pl, if_neg he]
        obtain ⟨j, h1, h2⟩ := ih (n - pl n L (i + 1)) (by omega) (i + 1) rfl
        exact ⟨j, by omega, h2⟩
  exact this _ i rfl

/-- the row says where it is true -/
def Rep (n L : Nat) (row : List Bool) (a : Nat → Prop) : Prop := row.length = n ∧ ∀ i, a i ↔ row.getD (pl n L i) false = true

theorem pl_add {n L : Nat} (i : Nat) : ∀ d, pl n L i + d < n → pl n L (i + d) = pl n L i + d
  | 0, _ => rfl
  | d + 1, h => by
    rw [← Nat.add_assoc, pl, pl_add i d (by omega), if_neg (by omega)]
    omega
theorem pl_wrap {n L : Nat} (i d : Nat) (h : pl n L i + d + 1 = n) : pl n L (i + d + 1) = L := by
  rw [pl, pl_add i d (by omega), if_pos h]

/-- decided at T, or blocked, or passed on -/
def Pass (T : Bool) (c : Bool → Bool) (p : Bool → Bool → Bool → Bool) : Prop := ∀ v w l, p v w l = if w = T then T else if c v = T then l else !T
section
variable {T : Bool} {c : Bool → Bool} {p : Bool → Bool → Bool → Bool} {us vs : List Bool} {n L : Nat}

theorem atB_lin (hp : Pass T c p) (hu : us.length = n) (hv : vs.length = n) (l0 : Bool) : ∀ d j, n - j = d → j ≤ n → (atB p l0 us vs j = T ↔ (∃ m, j ≤ m ∧ m < n ∧ vs.getD m false = T ∧ ∀ q, j ≤ q → q < m → c (us.getD q false) = T) ∨ (l0 = T ∧ ∀ q, j ≤ q → q < n → c (us.getD q false) = T)) := by
  intro d
  induction d with
  | zero =>
    intro j hd hj
    have e : j = us.length := by omega
    rw [e, atB_end]
    constructor
    · intro h
      exact .inr ⟨h, fun q h1 h2 => absurd h1 (by omega)⟩
    · rintro (⟨m, h1, h2, _⟩ | ⟨h, _⟩)
      · omega
      · exact h
  | succ d ih =>
    intro j hd hj
    have hju : j < us.length := by omega
    have hjv : j < vs.length := by omega
    have eu : us.getD j false = us[j] := by simp [hju]
    have ev : vs.getD j false = vs[j] := by simp [hjv]
    rw [atB_step p l0 us vs j hju hjv, hp]
    have hi := ih (j + 1) (by omega) (by omega)
    by_cases h1 : vs[j] = T
    · rw [if_pos h1]
      constructor
      · intro _
        exact .inl ⟨j, Nat.le_refl _, by omega, by rw [ev, h1], fun q h1 h2 => absurd h1 (by omega)⟩
      · intro _; rfl
    · rw [if_neg h1]
      by_cases h2 : c us[j] = T
      · rw [if_pos h2, hi]
        constructor
        · rintro (⟨m, g1, g2, g3, g4⟩ | ⟨g1, g2⟩)
          · exact .inl ⟨m, by omega, g2, g3, fun q q1 q2 => by
              by_cases e : q = j
              · rw [e, eu, h2]
              · exact g4 q (by omega) q2⟩
          · exact .inr ⟨g1, fun q q1 q2 => by
              by_cases e : q = j
              · rw [e, eu, h2]
              · exact g2 q (by omega) q2⟩
        · rintro (⟨m, g1, g2, g3, g4⟩ | ⟨g1, g2⟩)
          · have : m ≠ j := fun e => h1 (by rw [← ev, ← e, g3])
            exact .inl ⟨m, by omega, g2, g3, fun q q1 q2 => g4 q (by omega) q2⟩
          · exact .inr ⟨g1, fun q q1 q2 => g2 q (by omega) q2⟩
      · rw [if_neg h2]
        constructor
        · intro h; cases T <;> simp at h
        · rintro (⟨m, g1, g2, g3, g4⟩ | ⟨g1, g2⟩)
          · by_cases e : m = j
            · exact absurd (by rw [← ev, ← e, g3]) h1
            · exact absurd (by rw [← eu]; exact g4 j (Nat.le_refl _) (by omega)) h2
          · exact absurd (by rw [← eu]; exact g2 j (Nat.le_refl _) (by omega)) h2

/-- round and round -/
theorem back_sem (hp : Pass T c p) (hu : us.length = n) (hv : vs.length = n) (hL : L < n) (i : Nat) :
    (backRow p (!T) us vs L).getD (pl n L i) false = T ↔ ∃ j, i ≤ j ∧ vs.getD (pl n L j) false = T ∧ ∀ m, i ≤ m → m < j → c (us.getD (pl n L m) false) = T := by
  have hlt := pl_lt (n := n) hL i
  have e0 : (backRow p (!T) us vs L).getD (pl n L i) false = atB p (later p (!T) us vs L 1) us vs (pl n L i) := by
    simp [backRow, hu, hlt]
  have hs : later p (!T) us vs L 1 = T ↔ ∃ m, L ≤ m ∧ m < n ∧ vs.getD m false = T ∧ ∀ q, L ≤ q → q < m → c (us.getD q false) = T := by
    have := atB_lin hp hu hv (!T) (n - L) L rfl (by omega)
    simp only [later]
    rw [this]
    constructor
    · rintro (h | ⟨h, _⟩)
      · exact h
      · cases T <;> simp at h
    · exact .inl
  rw [e0, atB_lin hp hu hv _ (n - pl n L i) (pl n L i) rfl (by omega)]
  constructor
  · rintro (⟨m, h1, h2, h3, h4⟩ | ⟨h1, h2⟩)
    · refine ⟨i + (m - pl n L i), by omega, ?_, fun q q1 q2 => ?_⟩
      · rw [pl_add i _ (by omega), show pl n L i + (m - pl n L i) = m by omega]
        exact h3
      · obtain ⟨d, rfl⟩ : ∃ d, q = i + d := ⟨q - i, by omega⟩
        rw [pl_add i d (by omega)]
        exact h4 _ (by omega) (by omega)
    · obtain ⟨m, g1, g2, g3, g4⟩ := hs.1 h1
      obtain ⟨d, hd⟩ : ∃ d, pl n L i + d + 1 = n := ⟨n - 1 - pl n L i, by omega⟩
      have hw := pl_wrap i d hd
      have hpl : ∀ k, L + k < n → pl n L (i + d + 1 + k) = L + k := fun k hk => by rw [pl_add (i + d + 1) k (by rw [hw]; exact hk), hw]
      refine ⟨i + d + 1 + (m - L), by omega, ?_, fun q q1 q2 => ?_⟩
      · rw [hpl _ (by omega), show L + (m - L) = m by omega]
        exact g3
      · by_cases hq : q < i + d + 1
        · obtain ⟨k, rfl⟩ : ∃ k, q = i + k := ⟨q - i, by omega⟩
          rw [pl_add i k (by omega)]
          exact h2 _ (by omega) (by omega)
        · obtain ⟨k, rfl⟩ : ∃ k, q = i + d + 1 + k := ⟨q - (i + d + 1), by omega⟩
          rw [hpl k (by omega)]
          exact g4 _ (by omega) (by omega)
  · rintro ⟨j, hj, hb, ha⟩
    by_cases hjn : pl n L i + (j - i) < n
    · refine .inl ⟨pl n L i + (j - i), by omega, hjn, ?_, fun q q1 q2 => ?_⟩
      · rw [← pl_add i (j - i) hjn, show i + (j - i) = j by omega]
        exact hb
      · have := ha (i + (q - pl n L i)) (by omega) (by omega)
        rwa [pl_add i _ (by omega), show pl n L i + (q - pl n L i) = q by omega] at this
    · right
      obtain ⟨d, hd⟩ : ∃ d, pl n L i + d + 1 = n := ⟨n - 1 - pl n L i, by omega⟩
      have hw := pl_wrap i d hd
      have hpl : ∀ k, L + k < n → pl n L (i + d + 1 + k) = L + k := fun k hk => by rw [pl_add (i + d + 1) k (by rw [hw]; exact hk), hw]
      refine ⟨hs.2 ?_, fun q q1 q2 => ?_⟩
      · by_cases hj2 : L + (j - (i + d + 1)) < n
        · refine ⟨L + (j - (i + d + 1)), by omega, hj2, ?_, fun q q1 q2 => ?_⟩
          · rw [← hpl _ hj2, show i + d + 1 + (j - (i + d + 1)) = j by omega]
            exact hb
          · have := ha (i + d + 1 + (q - L)) (by omega) (by omega)
            rwa [hpl _ (by omega), show L + (q - L) = q by omega] at this
        · -- the witness lies a whole round later: the place itself comes in this round
          have hall : ∀ q, L ≤ q → q < n → c (us.getD q false) = T := fun q q1 q2 => by
            have := ha (i + d + 1 + (q - L)) (by omega) (by omega)
            rwa [hpl _ (by omega), show L + (q - L) = q by omega] at this
          have hLj : L ≤ pl n L j := by
            have : ∀ k, L ≤ pl n L (i + d + 1 + k) := by
              intro k
              induction k with
              | zero => rw [Nat.add_zero, hw]; exact Nat.le_refl _
              | succ k ih => rw [← Nat.add_assoc, pl]; split <;> omega
            have := this (j - (i + d + 1))
            rwa [show i + d + 1 + (j - (i + d + 1)) = j by omega] at this
          exact ⟨pl n L j, hLj, pl_lt hL j, hb, fun q q1 q2 => hall q q1 (by have := pl_lt (n := n) hL j; omega)⟩
      · have := ha (i + (q - pl n L i)) (by omega) (by omega)
        rwa [pl_add i _ (by omega), show pl n L i + (q - pl n L i) = q by omega] at this
end

theorem pass_until : Pass true id pUntil := by intro v w l; cases v <;> cases w <;> cases l <;> rfl
theorem pass_release : Pass false id pRelease := by intro v w l; cases v <;> cases w <;> cases l <;> rfl
theorem pass_fin : Pass true (fun _ => true) pFin := by intro v w l; cases v <;> cases w <;> cases l <;> rfl
theorem pass_glob : Pass false (fun _ => false) pGlob := by intro v w l; cases v <;> cases w <;> cases l <;> rfl
theorem getD_zip (f : Bool → Bool → Bool) {a b : List Bool} {n j : Nat} (ha : a.length = n) (hb : b.length = n) (hj : j < n) : (List.zipWith f a b).getD j false = f (a.getD j false) (b.getD j false) := by
  have h1 : j < a.length := by omega
  have h2 : j < b.length := by omega
  have h3 : j < (List.zipWith f a b).length := by simp; omega
  rw [List.getD_eq_getElem?_getD, List.getElem?_eq_getElem h3, List.getD_eq_getElem?_getD, List.getElem?_eq_getElem h1, List.getD_eq_getElem?_getD, List.getElem?_eq_getElem h2]
  simp
theorem not_T {b : Bool} : b = false ↔ ¬ b = true := by cases b <;> simp

theorem rep_rowOp {xs : List Int} {L : Nat} (hL : L < xs.length) {x : Nat → Int} (hx : ∀ i, x i = xs.getD (pl xs.length L i) 0) {op n : Int} {a b : List Bool} {A B : Nat → Prop} (h0 : 0 ≤ op) (h1 : op < 12)
    (ha : 0 < kidC op → Rep xs.length L a A) (hb : 1 < kidC op → Rep xs.length L b B) : Rep xs.length L (rowOp xs L op n a b) (opP op n x A B) := by
  refine ⟨rowOp_len h0 h1 (by omega) (fun h => (ha h).1) (fun h => (hb h).1), fun i => ?_⟩
  have hp := pl_lt hL i
  obtain ⟨m, rfl⟩ : ∃ m : Nat, op = m := ⟨op.toNat, by omega⟩
  match m, h1, ha, hb with
  | 0, _, _, _ => simp [rowOp, opP, hp]
  | 1, _, _, _ => simp [rowOp, opP, hp]
  | 2, _, _, _ =>
    have e : xs.getD (pl xs.length L i) 0 = xs[pl xs.length L i] := by simp [hp]
    simp [rowOp, opP, hp, hx]
  | 3, _, ha, _ =>
    have ga := ha (by decide)
    have e := getD_zip (fun v _ => !v) ga.1 ga.1 hp
    change (¬ A i) ↔ (List.zipWith (fun v _ => !v) a a).getD (pl xs.length L i) false = true
    rw [e, ga.2 i]
    simp
  | 4, _, ha, hb =>
    have ga := ha (by decide)
    have gb := hb (by decide)
    have e := getD_zip (fun v w => v && w) ga.1 gb.1 hp
    change (A i ∧ B i) ↔ (List.zipWith (fun v w => v && w) a b).getD (pl xs.length L i) false = true
    rw [e, ga.2 i, gb.2 i]
    simp
  | 5, _, ha, hb =>
    have ga := ha (by decide)
    have gb := hb (by decide)
    have e := getD_zip (fun v w => v || w) ga.1 gb.1 hp
    change (A i ∨ B i) ↔ (List.zipWith (fun v w => v || w) a b).getD (pl xs.length L i) false = true
    rw [e, ga.2 i, gb.2 i]
    simp
  | 6, _, ha, hb =>
    have ga := ha (by decide)
    have gb := hb (by decide)
    have e := getD_zip (fun v w => !v || w) ga.1 gb.1 hp
    change ((¬ A i) ∨ B i) ↔ (List.zipWith (fun v w => !v || w) a b).getD (pl xs.length L i) false = true
    rw [e, ga.2 i, gb.2 i]
    simp
  | 7, _, ha, _ =>
    have ga := ha (by decide)
    have e : (a.drop 1 ++ [a.getD L false]).getD (pl xs.length L i) false = a.getD (pl xs.length L (i + 1)) false := by
      rw [pl]
      have hl := ga.1
      by_cases h : pl xs.length L i + 1 = xs.length
      · rw [if_pos h, List.getD_eq_getElem?_getD, List.getElem?_append_right (by simp; omega)]
        have : pl xs.length L i - (a.drop 1).length = 0 := by simp; omega
        rw [this]
        rfl
      · rw [if_neg h, List.getD_eq_getElem?_getD, List.getElem?_append_left (by simp; omega), List.getElem?_drop, List.getD_eq_getElem?_getD, Nat.add_comm 1]
    change A (i + 1) ↔ (a.drop 1 ++ [a.getD L false]).getD (pl xs.length L i) false = true
    rw [e]
    exact ga.2 (i + 1)
  | 8, _, ha, hb =>
    have ga := ha (by decide)
    have gb := hb (by decide)
    have e := back_sem pass_until ga.1 gb.1 hL i
    change (∃ j, i ≤ j ∧ B j ∧ ∀ m, i ≤ m → m < j → A m) ↔ (backRow pUntil (!true) a b L).getD (pl xs.length L i) false = true
    rw [e]
    simp only [ga.2, gb.2, id]
  | 9, _, ha, hb =>
    have ga := ha (by decide)
    have gb := hb (by decide)
    have e := back_sem pass_release ga.1 gb.1 hL i
    change (∀ j, i ≤ j → B j ∨ ∃ m, i ≤ m ∧ m < j ∧ A m) ↔ (backRow pRelease true a b L).getD (pl xs.length L i) false = true
    have e2 : ((backRow pRelease true a b L).getD (pl xs.length L i) false = true) ↔ ¬ ∃ j, i ≤ j ∧ b.getD (pl xs.length L j) false = false ∧ ∀ m, i ≤ m → m < j → id (a.getD (pl xs.length L m) false) = false := by
      rw [← e]
      simp
    rw [e2]
    simp only [ga.2, gb.2, id, not_T]
    constructor
    · rintro h ⟨j, h1, h2, h3⟩
      rcases h j h1 with g | ⟨m, g1, g2, g3⟩
      · exact h2 g
      · exact h3 m g1 g2 g3
    · intro h j hj
      by_cases g : b.getD (pl xs.length L j) false = true
      · exact .inl g
      · right
        by_cases g2 : ∃ m, i ≤ m ∧ m < j ∧ a.getD (pl xs.length L m) false = true
        · exact g2
        · exact absurd ⟨j, hj, g, fun m m1 m2 m3 => g2 ⟨m, m1, m2, m3⟩⟩ h
  | 10, _, ha, _ =>
    have ga := ha (by decide)
    have e := back_sem pass_fin ga.1 ga.1 hL i
    change (∃ j, i ≤ j ∧ A j) ↔ (backRow pFin (!true) a a L).getD (pl xs.length L i) false = true
    rw [e]
    simp only [ga.2]
    constructor
    · rintro ⟨j, h1, h2⟩
      exact ⟨j, h1, h2, fun _ _ _ => trivial⟩
    · rintro ⟨j, h1, h2, _⟩
      exact ⟨j, h1, h2⟩
  | 11, _, ha, _ =>
    have ga := ha (by decide)
    have e := back_sem pass_glob ga.1 ga.1 hL i
    change (∀ j, i ≤ j → A j) ↔ (backRow pGlob true a a L).getD (pl xs.length L i) false = true
    have e2 : ((backRow pGlob true a a L).getD (pl xs.length L i) false = true) ↔ ¬ ∃ j, i ≤ j ∧ a.getD (pl xs.length L j) false = false ∧ ∀ m, i ≤ m → m < j → (fun _ => false) (a.getD (pl xs.length L m) false) = false := by
      rw [← e]
      simp
    rw [e2]
    simp only [ga.2, not_T]
    constructor
    · rintro h ⟨j, h1, h2, _⟩
      exact h2 (h j h1)
    · intro h j hj
      by_cases g : a.getD (pl xs.length L j) false = true
      · exact g
      · exact absurd ⟨j, hj, g, fun _ _ _ => by simp⟩ h
  | m + 12, h2, _, _ => omega

mutual
theorem tvT_rep {xs : List Int} {L : Nat} (hL : L < xs.length) {x : Nat → Int} (hx : ∀ i, x i = xs.getD (pl xs.length L i) 0) : ∀ t : Tr, t.well → Rep xs.length L (tvT xs L t) (satT x t)
  | .mk op n kids, h => by
    have hk := tvTs_rep hL hx kids h.2
    obtain ⟨h0, h1, hl, _⟩ := h.1
    unfold tvT satT
    exact rep_rowOp hL hx h0 h1 (fun hh => hk 0 (by omega)) (fun hh => hk 1 (by omega))
theorem tvTs_rep {xs : List Int} {L : Nat} (hL : L < xs.length) {x : Nat → Int} (hx : ∀ i, x i = xs.getD (pl xs.length L i) 0) : ∀ l : List Tr, Tr.wells l → ∀ j, j < l.length → Rep xs.length L ((tvTs xs L l).getD j []) ((satTs x l).getD j (fun _ => False))
  | t :: r, h, 0, _ => by simpa [tvTs, satTs] using tvT_rep hL hx t h.1
  | t :: r, h, j + 1, hj => by simpa [tvTs, satTs] using tvTs_rep hL hx r h.2 j (by simpa using hj)
end

/-- the letters of a word, by its places -/
theorem wAt_pl (hd lp : List Int) (hl : 0 < lp.length) : ∀ i, wAt hd lp i = (hd ++ lp).getD (pl (hd ++ lp).length hd.length i) 0 := by
  have key : ∀ i, pl (hd ++ lp).length hd.length i = if i < hd.length then i else hd.length + (i - hd.length) % lp.length := by
    intro i
    have hn : (hd ++ lp).length = hd.length + lp.length := List.length_append
    induction i with
    | zero =>
      by_cases h : 0 < hd.length
      · rw [if_pos h]; rfl
      · have : hd.length = 0 := by omega
        rw [if_neg h, this]; simp [pl]
    | succ i ih =>
      rw [pl, ih, hn]
      by_cases h : i < hd.length
      · rw [if_pos h, if_neg (by omega)]
        by_cases h2 : i + 1 < hd.length
        · rw [if_pos h2]
        · rw [if_neg h2, show i + 1 - hd.length = 0 by omega, Nat.zero_mod]; omega
      · rw [if_neg h, if_neg (show ¬ i + 1 < hd.length by omega)]
        obtain ⟨m, rfl⟩ : ∃ m, i = hd.length + m := ⟨i - hd.length, by omega⟩
        rw [show hd.length + m + 1 - hd.length = m + 1 by omega, show hd.length + m - hd.length = m by omega]
        have hq := Nat.mod_lt m hl
        have hdm := Nat.mod_add_div m lp.length
        by_cases h3 : m % lp.length + 1 = lp.length
        · rw [if_pos (by omega)]
          have : m + 1 = lp.length * (m / lp.length + 1) := by rw [Nat.mul_add, Nat.mul_one]; omega
          rw [this, Nat.mul_mod_right]
          rfl
        · rw [if_neg (by omega)]
          have : (m + 1) % lp.length = m % lp.length + 1 := by
            rw [show m + 1 = (m % lp.length + 1) + lp.length * (m / lp.length) by omega, Nat.add_mul_mod_self_left, Nat.mod_eq_of_lt (by omega)]
          rw [this, Nat.add_assoc]
  intro i
  rw [key i]
  unfold wAt
  by_cases h : i < hd.length
  · rw [if_pos h, if_pos h, List.getD_eq_getElem?_getD, List.getD_eq_getElem?_getD, List.getElem?_append_left h]
  · rw [if_neg h, if_neg h, List.getD_eq_getElem?_getD, List.getD_eq_getElem?_getD, List.getElem?_append_right (by omega), Nat.add_sub_cancel_left]

/-- the program's row of truths says what is true in the word -/
theorem tv_sat {hd lp : List Int} (hl : 0 < lp.length) {t : Tr} (ht : t.well) (i : Nat) (hi : i < hd.length + lp.length) : ((tvT (hd ++ lp) hd.length t).getD i false = true) ↔ satT (wAt hd lp) t i := by
  have hn : (hd ++ lp).length = hd.length + lp.length := List.length_append
  have h := (tvT_rep (xs := hd ++ lp) (L := hd.length) (by omega) (wAt_pl hd lp hl) t ht).2 i
  rw [h, pl_id i (by omega)]
theorem tv_head {hd lp : List Int} (hl : 0 < lp.length) {t : Tr} (ht : t.well) : ((tvT (hd ++ lp) hd.length t).headD false = true) ↔ satT (wAt hd lp) t 0 := by
  rw [← tv_sat hl ht 0 (by omega)]
  cases tvT (hd ++ lp) hd.length t <;> simp
end Go.Proofs.YtdbpdanocpfboaaDoor
