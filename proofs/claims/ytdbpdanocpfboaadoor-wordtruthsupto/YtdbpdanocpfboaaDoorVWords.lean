/- Words as rows without an end: what the shortest one is. -/
import Derived.Test.YtdbpdanocpfboaaDoorVPer
namespace Go.Proofs.YtdbpdanocpfboaaDoor
open Go.RowKit

/-- a word's letters -/
def wAt (hd lp : List Int) (i : Nat) : Int := if i < hd.length then hd.getD i 0 else lp.getD ((i - hd.length) % lp.length) 0
theorem wAt_cyc (hd lp : List Int) (i : Nat) : wAt hd lp (hd.length + i) = cyc lp i := by
  unfold wAt cyc
  rw [if_neg (by omega), Nat.add_sub_cancel_left]
/-- from h on it comes again after P, and with nothing shorter; and one ahead of h it does not -/
def Norm (x : Nat → Int) (h P : Nat) : Prop := 1 ≤ P ∧ PerI x h P ∧ (∀ H e, 1 ≤ e → PerI x H e → P ≤ e) ∧ (h = 0 ∨ x (h - 1) ≠ x (h - 1 + P))
theorem PerI.later {x : Nat → Int} {h h' p : Nat} (hp : PerI x h p) (hh : h ≤ h') : PerI x h' p := fun i hi => hp i (by omega)
theorem norm_le {x : Nat → Int} {h P h' : Nat} (n : Norm x h P) (q : PerI x h' P) : h ≤ h' := by
  rcases n.2.2.2 with h0 | hne
  · omega
  · by_cases hl : h ≤ h'
    · exact hl
    · exact absurd (q (h - 1) (by omega)).symm hne
theorem norm_inj {x : Nat → Int} {h P h' P' : Nat} (n : Norm x h P) (n' : Norm x h' P') : h = h' ∧ P = P' := by
  have e : P = P' := Nat.le_antisymm (n.2.2.1 h' P' n'.1 n'.2.1) (n'.2.2.1 h P n.1 n.2.1)
  subst e
  exact ⟨Nat.le_antisymm (norm_le n n'.2.1) (norm_le n' n.2.1), rfl⟩

theorem LPer.per {lp : List Int} {P : Nat} (h : LPer lp P) (hd : List Int) : PerI (wAt hd lp) hd.length P := by
  intro i hi
  obtain ⟨j, rfl⟩ : ∃ j, i = hd.length + j := ⟨i - hd.length, by omega⟩
  rw [Nat.add_assoc, wAt_cyc, wAt_cyc]
  exact h.2.2.1.cyc h.2.1 j (by omega)
theorem LPer.least {lp : List Int} {P : Nat} (h : LPer lp P) (hl : 0 < lp.length) (hd : List Int) (H e : Nat) (he : 1 ≤ e) (hp : PerI (wAt hd lp) H e) : P ≤ e := by
  have hc : PerI (cyc lp) 0 e := by
    intro i _
    have hm : H ≤ lp.length * H := Nat.le_mul_of_pos_left H hl
    have a1 := (cyc_len lp).mul H (i + e) (by omega)
    have a2 := (cyc_len lp).mul H i (by omega)
    have a3 := hp (hd.length + (i + lp.length * H)) (by omega)
    rw [Nat.add_assoc, wAt_cyc, wAt_cyc] at a3
    rw [← a1, ← a2, ← a3]
    congr 1
    omega
  have hg := (hc.gcd e lp.length (cyc_len lp)).list
  have hgp : 0 < Nat.gcd e lp.length := Nat.gcd_pos_of_pos_left _ he
  have := h.2.2.2 _ hgp (Nat.gcd_dvd_right _ _) hg
  have := Nat.gcd_le_left lp.length (show 0 < e by omega)
  omega
/-- the shortest Loop, and as much of the Head as does not come again -/
def Short (hd lp : List Int) (h P : Nat) : Prop := LPer lp P ∧ h ≤ hd.length ∧ (∀ i, h ≤ i → i < hd.length → wAt hd lp (i + P) = wAt hd lp i) ∧ (h = 0 ∨ wAt hd lp (h - 1) ≠ wAt hd lp (h - 1 + P))
theorem Short.norm {hd lp : List Int} {h P : Nat} (s : Short hd lp h P) (hl : 0 < lp.length) : Norm (wAt hd lp) h P :=
  ⟨s.1.1, fun i hi => by
    by_cases hh : i < hd.length
    · exact s.2.2.1 i hi hh
    · exact s.1.per hd i (by omega), fun H e he hp => s.1.least hl hd H e he hp, s.2.2.2⟩
theorem Short.inj {hd lp : List Int} {h P h' P' : Nat} (s : Short hd lp h P) (s' : Short hd lp h' P') (hl : 0 < lp.length) : h = h' ∧ P = P' := norm_inj (s.norm hl) (s'.norm hl)

/-- the letters from one place on, so many -/
def cutW (x : Nat → Int) (a n : Nat) : List Int := (List.range n).map fun i => x (a + i)
theorem cutW_length (x : Nat → Int) (a n : Nat) : (cutW x a n).length = n := by simp [cutW]
theorem cutW_get {x y : Nat → Int} {a b n : Nat} (h : cutW x a n = cutW y b n) {i : Nat} (hi : i < n) : x (a + i) = y (b + i) := by
  have := congrArg (fun l => l[i]?) h
  simpa [cutW, hi] using this

theorem per_all {x y : Nat → Int} {h P : Nat} (hP : 1 ≤ P) (px : PerI x h P) (py : PerI y h P) (e0 : ∀ i, i < h + P → x i = y i) : ∀ i, x i = y i := by
  intro i
  induction i using Nat.strongRecOn with
  | _ i ih =>
    by_cases hi : i < h + P
    · exact e0 i hi
    · have a := px (i - P) (by omega)
      have b := py (i - P) (by omega)
      rw [Nat.sub_add_cancel (by omega)] at a b
      rw [a, b]
      exact ih (i - P) (by omega)
/-- two that come again, the one after p letters, the other one after q, are the same, if they are so for p + q letters -/
theorem two_all {x y : Nat → Int} {N p q : Nat} (px : PerI x N p) (py : PerI y N q) (hp : 1 ≤ p) (hq : 1 ≤ q) (e0 : ∀ i, i < N + p + q → x i = y i) : ∀ i, x i = y i := by
  intro i
  induction i using Nat.strongRecOn with
  | _ i ih =>
    by_cases hi : i < N + p + q
    · exact e0 i hi
    · have a1 := px (i - p) (by omega)
      have a2 := py (i - p - q) (by omega)
      have a3 := px (i - p - q) (by omega)
      have a4 := py (i - q) (by omega)
      rw [Nat.sub_add_cancel (by omega)] at a1 a2 a4
      rw [show i - p - q + p = i - q by omega] at a3
      rw [a1, ih (i - p) (by omega), a2, ← ih (i - p - q) (by omega), ← a3, ih (i - q) (by omega), ← a4]
theorem wAt_per (hd lp : List Int) : PerI (wAt hd lp) hd.length lp.length := by
  intro i hi
  obtain ⟨j, rfl⟩ : ∃ j, i = hd.length + j := ⟨i - hd.length, by omega⟩
  rw [Nat.add_assoc, wAt_cyc, wAt_cyc]
  exact cyc_len lp j (by omega)

/-- two words mean the same just if their shortest ones are the same -/
theorem same_iff {hd lp hd' lp' : List Int} {h P h' P' : Nat} (hl : 0 < lp.length) (hl' : 0 < lp'.length) (s : Short hd lp h P) (s' : Short hd' lp' h' P') :
    (cutW (wAt hd lp) 0 h = cutW (wAt hd' lp') 0 h' ∧ cutW (wAt hd lp) h P = cutW (wAt hd' lp') h' P') ↔ ∀ i, i < max hd.length hd'.length + lp.length + lp'.length → wAt hd lp i = wAt hd' lp' i := by
  have n := s.norm hl
  have n' := s'.norm hl'
  constructor
  · rintro ⟨e1, e2⟩ i _
    have l1 := congrArg List.length e1
    have l2 := congrArg List.length e2
    rw [cutW_length, cutW_length] at l1 l2
    subst l1 l2
    refine per_all n.1 n.2.1 n'.2.1 (fun i hi => ?_) i
    by_cases hh : i < h
    · have := cutW_get e1 hh
      rwa [Nat.zero_add] at this
    · have := cutW_get e2 (show i - h < P by omega)
      rwa [Nat.add_sub_cancel' (by omega)] at this
  · intro e
    have hx : wAt hd lp = wAt hd' lp' := funext (two_all ((wAt_per hd lp).later (Nat.le_max_left _ _)) ((wAt_per hd' lp').later (Nat.le_max_right _ _)) hl hl' e)
    rw [← hx] at n'
    obtain ⟨rfl, rfl⟩ := norm_inj n n'
    rw [hx]
    exact ⟨rfl, rfl⟩

/-- a Head that ends as the Loop does is as well without that end, if the Loop begins as much earlier -/
theorem back_short {hd lp : List Int} {P k : Nat} (hp : LPer lp P) (hl : 0 < lp.length) (hk : k ≤ hd.length)
    (hm : ∀ j, j < k → hd.getD (hd.length - 1 - j) 0 = lp.getD (P - 1 - j % P) 0) (he : k = hd.length ∨ hd.getD (hd.length - 1 - k) 0 ≠ lp.getD (P - 1 - k % P) 0) :
    Short hd lp (hd.length - k) P ∧ ∀ i, wAt hd lp (hd.length - k + i) = lp.getD ((i + (P - k % P)) % P) 0 := by
  have hP := hp.1
  have hPl : P ≤ lp.length := Nat.le_of_dvd hl hp.2.1
  have hcyc : ∀ i, cyc lp i = lp.getD (i % P) 0 := fun i => by
    have a := (hp.2.2.1.cyc hp.2.1).mul (i / P) (i % P) (by omega)
    rw [Nat.mod_add_div] at a
    rw [a, cyc, Nat.mod_eq_of_lt (by have := Nat.mod_lt i (show 0 < P by omega); omega)]
  have hat : ∀ i, wAt hd lp (hd.length - k + i) = lp.getD ((i + (P - k % P)) % P) 0 := fun i => by
    have hkm := Nat.mod_lt k (show 0 < P by omega)
    by_cases hi : i < k
    · unfold wAt
      rw [if_pos (by omega), show hd.length - k + i = hd.length - 1 - (k - 1 - i) by omega, hm (k - 1 - i) (by omega)]
      congr 1
      have hj := Nat.mod_lt (k - 1 - i) (show 0 < P by omega)
      have e1 := Nat.mod_add_div (k - 1 - i) P
      have e2 := Nat.mod_add_div k P
      obtain ⟨D, hD⟩ : ∃ D, k / P = (k - 1 - i) / P + D := ⟨k / P - (k - 1 - i) / P, by have := Nat.div_le_div_right (c := P) (show k - 1 - i ≤ k by omega); omega⟩
      rw [hD, Nat.mul_add] at e2
      clear hD
      generalize k % P = b at *
      generalize (k - 1 - i) % P = a at *
      generalize P * ((k - 1 - i) / P) = A at *
      have e3 : i + (P - b) = (P - 1 - a) + P * D := by
        generalize P * D = C at *
        omega
      rw [e3, Nat.add_mul_mod_self_left, Nat.mod_eq_of_lt (by omega)]
    · rw [show hd.length - k + i = hd.length + (i - k) by omega, wAt_cyc, hcyc]
      congr 1
      have e2 := Nat.mod_add_div k P
      have e3 : i + (P - k % P) = (i - k) + P * (k / P + 1) := by
        rw [Nat.mul_add, Nat.mul_one]
        generalize k % P = b at *
        generalize P * (k / P) = A at *
        omega
      rw [e3, Nat.add_mul_mod_self_left]
  refine ⟨⟨hp, by omega, fun i h1 h2 => ?_, ?_⟩, hat⟩
  · obtain ⟨j, rfl⟩ : ∃ j, i = hd.length - k + j := ⟨i - (hd.length - k), by omega⟩
    rw [Nat.add_assoc, hat, hat]
    congr 1
    rw [show j + P + (P - k % P) = j + (P - k % P) + P by omega, Nat.add_mod_right]
  · rcases he with he | he
    · exact .inl (by omega)
    · by_cases hkl : k = hd.length
      · exact .inl (by omega)
      · right
        have hkm := Nat.mod_lt k (show 0 < P by omega)
        have h1 : wAt hd lp (hd.length - k - 1) = hd.getD (hd.length - 1 - k) 0 := by
          unfold wAt
          rw [if_pos (by omega)]
          congr 1
          omega
        have h2 := hat (P - 1)
        rw [show P - 1 + (P - k % P) = (P - 1 - k % P) + P by omega, Nat.add_mod_right, Nat.mod_eq_of_lt (by omega)] at h2
        rw [h1, show hd.length - k - 1 + P = hd.length - k + (P - 1) by omega, h2]
        exact he
end Go.Proofs.YtdbpdanocpfboaaDoor
