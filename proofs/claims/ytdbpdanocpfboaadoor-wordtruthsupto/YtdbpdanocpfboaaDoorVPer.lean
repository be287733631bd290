/- Periods of lists and of what comes again for ever. -/
import Derived.Test.YtdbpdanocpfboaaDoorVHolds
namespace Go.Proofs.YtdbpdanocpfboaaDoor
open Go.RowKit

/-- a row without an end comes again after p, from h on -/
def PerI (x : Nat → Int) (h p : Nat) : Prop := ∀ i, h ≤ i → x (i + p) = x i
theorem PerI.mul {x : Nat → Int} {h p : Nat} (hp : PerI x h p) (k : Nat) : PerI x h (p * k) := by
  induction k with
  | zero => intro i _; simp
  | succ k ih =>
    intro i hi
    rw [Nat.mul_succ, ← Nat.add_assoc, hp (i + p * k) (by omega)]
    exact ih i hi
theorem PerI.mod {x : Nat → Int} {h a b : Nat} (ha : PerI x h a) (hb : PerI x h b) : PerI x h (b % a) := by
  intro i hi
  have h1 := ha.mul (b / a) (i + b % a) (by omega)
  have h2 := hb i hi
  have e : i + b % a + a * (b / a) = i + b := by have := Nat.mod_add_div b a; omega
  rw [e] at h1
  rw [← h1, h2]
theorem PerI.gcd {x : Nat → Int} {h : Nat} : ∀ (a b : Nat), PerI x h a → PerI x h b → PerI x h (Nat.gcd a b) := by
  intro a
  induction a using Nat.strongRecOn with
  | _ a ih =>
    intro b ha hb
    by_cases h0 : a = 0
    · subst h0; simpa using hb
    · rw [Nat.gcd_rec]
      exact ih (b % a) (Nat.mod_lt _ (by omega)) a (ha.mod hb) ha

/-- a list comes again after p -/
def IsPer (l : List Int) (p : Nat) : Prop := ∀ i, p ≤ i → i < l.length → l.getD i 0 = l.getD (i - p) 0
/-- a list, again and again -/
def cyc (l : List Int) (i : Nat) : Int := l.getD (i % l.length) 0
theorem cyc_len (l : List Int) : PerI (cyc l) 0 l.length := by
  intro i _
  simp [cyc]
theorem IsPer.mul {l : List Int} {p : Nat} (h : IsPer l p) : ∀ (k i : Nat), i + p * k < l.length → l.getD (i + p * k) 0 = l.getD i 0
  | 0, i, _ => by simp
  | k + 1, i, hi => by
    rw [Nat.mul_succ] at hi
    rw [Nat.mul_succ, ← Nat.add_assoc, h (i + p * k + p) (by omega) (by omega), Nat.add_sub_cancel]
    exact IsPer.mul h k i (by omega)
/-- what comes again all the way does so for ever -/
theorem IsPer.cyc {l : List Int} {p : Nat} (h : IsPer l p) (hd : p ∣ l.length) : PerI (cyc l) 0 p := by
  obtain ⟨k, hk⟩ := hd
  intro i _
  by_cases hl : l.length = 0
  · have : l = [] := List.eq_nil_of_length_eq_zero hl
    subst this
    simp [Go.Proofs.YtdbpdanocpfboaaDoor.cyc]
  · have hm := Nat.mod_lt i (show 0 < l.length by omega)
    have key : ∀ r, r < l.length → l.getD ((r + p) % l.length) 0 = l.getD r 0 := by
      intro r hr
      by_cases hrp : r + p < l.length
      · rw [Nat.mod_eq_of_lt hrp, h (r + p) (by omega) hrp, Nat.add_sub_cancel]
      · have hpl : p ≤ l.length := by
          cases k with
          | zero => rw [Nat.mul_zero] at hk; omega
          | succ k => rw [Nat.mul_succ] at hk; omega
        have e1 : (r + p) % l.length = r + p - l.length := by
          rw [Nat.mod_eq_sub_mod (by omega), Nat.mod_eq_of_lt (by omega)]
        rw [e1]
        cases k with
        | zero => rw [Nat.mul_zero] at hk; omega
        | succ k =>
          have e2 : r + p - l.length + p * k = r := by rw [Nat.mul_succ] at hk; omega
          have := IsPer.mul h k (r + p - l.length) (by omega)
          rw [e2] at this
          exact this.symm
    have := key (i % l.length) hm
    rw [Nat.mod_add_mod] at this
    exact this
theorem PerI.list {l : List Int} {p : Nat} (h : PerI (cyc l) 0 p) : IsPer l p := by
  intro i hp hi
  have := h (i - p) (by omega)
  rw [Nat.sub_add_cancel hp] at this
  simp only [cyc] at this
  rwa [Nat.mod_eq_of_lt hi, Nat.mod_eq_of_lt (by omega)] at this

/-- P is the shortest with which the list comes again all the way -/
def LPer (l : List Int) (P : Nat) : Prop := 1 ≤ P ∧ P ∣ l.length ∧ IsPer l P ∧ ∀ q, 1 ≤ q → q ∣ l.length → IsPer l q → P ≤ q
theorem LPer.inj {l : List Int} {P Q : Nat} (h : LPer l P) (h' : LPer l Q) : P = Q :=
  Nat.le_antisymm (h.2.2.2 Q h'.1 h'.2.1 h'.2.2.1) (h'.2.2.2 P h.1 h.2.1 h.2.2.1)

/-- from the shortest shift to the shortest that goes in -/
theorem shift_LPer {l : List Int} {s : Nat} (h1 : 1 ≤ s) (h2 : s ≤ l.length) (h3 : IsPer l s) (h4 : ∀ q, 1 ≤ q → q ≤ l.length → IsPer l q → s ≤ q) : LPer l (if l.length % s ≠ 0 then l.length else s) := by
  have hfull : IsPer l l.length := fun i hi hi' => absurd hi' (by omega)
  have main : ∀ q, 1 ≤ q → q ∣ l.length → IsPer l q → q < l.length → l.length % s = 0 := by
    intro q hq hqd hqp hql
    have hsq := h4 q hq (by omega) hqp
    have h2q : 2 * q ≤ l.length := by
      obtain ⟨k, hk⟩ := hqd
      match k, hk with
      | 0, hk => rw [Nat.mul_zero] at hk; omega
      | 1, hk => rw [Nat.mul_one] at hk; omega
      | k + 2, hk => rw [Nat.mul_add] at hk; omega
    have hqc := hqp.cyc hqd
    have hsc : PerI (cyc l) 0 s := by
      intro i _
      have e : i = i % q + q * (i / q) := (Nat.mod_add_div i q).symm
      have hr := Nat.mod_lt i (show 0 < q by omega)
      have a1 := hqc.mul (i / q) (i % q) (by omega)
      have a2 := hqc.mul (i / q) (i % q + s) (by omega)
      have e2 : i + s = i % q + s + q * (i / q) := by omega
      rw [e2, a2]
      have a3 : cyc l i = cyc l (i % q) := by rw [← a1, ← e]
      rw [a3]
      simp only [cyc]
      rw [Nat.mod_eq_of_lt (show i % q + s < l.length by omega), Nat.mod_eq_of_lt (show i % q < l.length by omega), h3 (i % q + s) (by omega) (by omega), Nat.add_sub_cancel]
    have hg := (hsc.gcd s l.length (cyc_len l)).list
    have hgp : 0 < Nat.gcd s l.length := Nat.gcd_pos_of_pos_left _ h1
    have hgl : Nat.gcd s l.length ≤ s := Nat.gcd_le_left _ h1
    have := h4 _ hgp (by omega) hg
    have e : Nat.gcd s l.length = s := by omega
    have hd := Nat.gcd_dvd_right s l.length
    rw [e] at hd
    exact Nat.mod_eq_zero_of_dvd hd
  split
  · rename_i hne
    refine ⟨by omega, Nat.dvd_refl _, hfull, fun q hq hqd hqp => ?_⟩
    by_cases hql : q < l.length
    · exact absurd (main q hq hqd hqp hql) hne
    · omega
  · rename_i hne
    have hz : l.length % s = 0 := by omega
    refine ⟨h1, Nat.dvd_of_mod_eq_zero hz, h3, fun q hq hqd hqp => ?_⟩
    exact h4 q hq (Nat.le_of_dvd (by omega) hqd) hqp
end Go.Proofs.YtdbpdanocpfboaaDoor
