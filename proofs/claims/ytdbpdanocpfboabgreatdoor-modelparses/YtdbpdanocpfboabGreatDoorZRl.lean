import Derived.Test.YtdbpdanocpfboabGreatDoorZBun01
import Derived.Test.YtdbpdanocpfboabGreatDoorZBun02
/- The document's find and letters. -/
namespace Go.Proofs.YtdbpdanocpfboabGreatDoor
open Go.RowKit

theorem beq_txt (x y : ByteArray) : (x.toList == y.toList) = decide (x = y) := by
  by_cases h : x = y
  · simp [h]
  · have : ¬ x.toList = y.toList := fun e => by
      rw [ByteArray.toList_eq, ByteArray.toList_eq] at e
      exact h (ByteArray.ext (Array.toList_inj.mp e))
    simp [h, this]

/-- the number of a text in a list, or -1 -/
def findZ (xs : List ByteArray) (n : ByteArray) : Int := match xs.findIdx? (fun x => decide (x = n)) with
  | some i => (i : Int)
  | none => -1
theorem findZ_first {xs : List ByteArray} {n : ByteArray} {k : Nat} (hk : k < xs.length) (h : xs[k] = n) (hall : ∀ j (hj : j < k), xs[j] ≠ n) : findZ xs n = (k : Int) := by
  have : xs.findIdx? (fun x => decide (x = n)) = some k := by
    rw [List.findIdx?_eq_some_iff_getElem]
    refine ⟨hk, by simp [h], fun j hj => ?_⟩
    simpa using hall j hj
  rw [findZ, this]
theorem findZ_none {xs : List ByteArray} {n : ByteArray} (hall : ∀ j (hj : j < xs.length), xs[j] ≠ n) : findZ xs n = -1 := by
  have : xs.findIdx? (fun x => decide (x = n)) = none := by
    rw [List.findIdx?_eq_none_iff]
    intro x hx
    obtain ⟨j, hj, rfl⟩ := List.mem_iff_getElem.1 hx
    simpa using hall j hj
  rw [findZ, this]

set_option maxRecDepth 100000 in
set_option maxHeartbeats 1000000 in
theorem find32 (w : World) (B : Nat) (v : Value) (xs : List ByteArray) (n : ByteArray) (hv : StrsV B w v xs) : Calls Tryz.prog 32 #[v, .string n] w fun e w' => e = .returned (.int .i64 (findZ xs n)) ∧ w' = w := by
  obtain ⟨a, cap, rfl, hl⟩ := hv.form
  have HV : Hid (StrsV B w (.slice a xs.length cap) xs) := hv
  clear hv
  go_enter Tryz.func32, Tryz.ntmps32
  go_wp2
  go_loop [5] (fun i => ∃ k : Nat, k ≤ xs.length ∧ i = .int .i64 k ∧ ∀ j (hj : j < k) (h' : j < xs.length), xs[j] ≠ n) (fun i => xs.length - (intOf i).toNat)
  case atStart => exact ⟨0, Nat.zero_le _, rfl, by omega⟩
  case round =>
    obtain ⟨k, hk, rfl, hall⟩ := hrel
    have HA : Hid (∀ j (hj : j < k) (h' : j < xs.length), xs[j] ≠ n) := hall
    clear hall
    by_cases hlt : k < xs.length
    · obtain ⟨b, off, rfl, hb, hc⟩ := HV.out.cell hlt
      have hki : (k : Int) < (xs.length : Int) := by omega
      by_cases he : xs[k] = n
      · have HE : Hid (findZ xs n = (k : Int)) := findZ_first hlt he (fun j hj => HA.out j hj (by omega))
        rw [he] at hc
        go_wp2
        go_ret
        exact ⟨ret_int HE.out.symm, rfl⟩
      · have he' : (xs[k].toList == n.toList) = false := by rw [beq_txt]; simpa using he
        go_wp2
        go_round
        case rel =>
          refine ⟨k + 1, by omega, by go_num, fun j hj h' => ?_⟩
          by_cases e : j = k
          · subst e; exact he
          · exact HA.out j (by omega) h'
        case measure => simp [intOf]; omega
    · have HE : Hid (findZ xs n = -1) := findZ_none (fun j hj => HA.out j (by omega) hj)
      go_wp2
      go_ret
      exact ⟨ret_int HE.out.symm, rfl⟩

/-! ### letters -/
def setStep (o : Option Nat) (c : Nat) : Option Nat := match o with
  | none => none
  | some n => if 97 ≤ c ∧ c ≤ 104 ∧ n < 2 ^ (c - 97) then some (n + 2 ^ (c - 97)) else none
def setN (s : ByteArray) : Nat → Option Nat
  | 0 => some 0
  | k + 1 => setStep (setN s k) (byteN s k)
theorem setN_none {s : ByteArray} {k : Nat} (h : setN s k = none) : ∀ {m : Nat}, k ≤ m → setN s m = none := by
  intro m hm
  induction m with
  | zero =>
    have : k = 0 := by omega
    subst this
    exact h
  | succ m ih =>
    by_cases e : k = m + 1
    · subst e; exact h
    · rw [setN, ih (by omega)]; rfl
/-- what is written last is the highest -/
theorem setN_top {s : ByteArray} {k n : Nat} (h : setN s (k + 1) = some n) : 97 ≤ byteN s k ∧ byteN s k ≤ 104 ∧ 2 ^ (byteN s k - 97) ≤ n ∧ n < 2 ^ (byteN s k - 97 + 1) := by
  rw [setN] at h
  cases hs : setN s k with
  | none => rw [hs] at h; cases h
  | some m =>
    rw [hs] at h
    simp only [setStep] at h
    split at h
    · rename_i hc
      injection h with h
      subst h
      refine ⟨hc.1, hc.2.1, by omega, ?_⟩
      rw [Nat.pow_succ]
      omega
    · cases h
theorem setN_lt {s : ByteArray} {k n : Nat} (h : setN s k = some n) : n < 256 := by
  cases k with
  | zero => rw [setN] at h; injection h with h; omega
  | succ k =>
    obtain ⟨h1, h2, h3, h4⟩ := setN_top h
    have : 2 ^ (byteN s k - 97 + 1) ≤ 2 ^ 8 := Nat.pow_le_pow_right (by decide) (by omega)
    omega
def dash : ByteArray := ⟨#[45]⟩
/-- the letters of a text as a set, or -1 -/
def lettersZ (s : ByteArray) : Int := if s = dash then 0 else match setN s s.size with
  | some n => (n : Int)
  | none => -1
theorem lettersZ_bad {s : ByteArray} {k : Nat} (hd : s ≠ dash) (hk : k ≤ s.size) (h : setN s k = none) : lettersZ s = -1 := by rw [lettersZ, if_neg hd, setN_none h hk]

set_option maxRecDepth 100000 in
set_option maxHeartbeats 4000000 in
theorem letters31 (w : World) (s : ByteArray) (hs : s.size ≤ 9223372036854775806) : Calls Tryz.prog 31 #[.string s] w fun e w' => e = .returned (.int .i64 (lettersZ s)) ∧ Kept (fun _ => False) w w' := by
  by_cases hd : s = dash
  · subst hd
    have HE : Hid (lettersZ dash = 0) := by simp [Hid, lettersZ]
    unfold dash
    go_enter Tryz.func31, Tryz.ntmps31
    go_wp2
    go_ret
    exact ⟨ret_int HE.out.symm, Kept.refl _ _⟩
  · have hd' : (s.toList == [45]) = false := by
      have := beq_txt s dash
      rw [show dash.toList = [45] by rw [ByteArray.toList_eq]; rfl] at this
      rw [this]
      simpa using hd
    have HD : Hid (s ≠ dash) := hd
    clear hd
    go_enter Tryz.func31, Tryz.ntmps31
    go_wp2
    go_loopw [3, 4] (fun n i wr => ∃ (k m : Nat), k ≤ s.size ∧ i = .int .i64 k ∧ n = .int .i64 m ∧ setN s k = some m ∧ Kept (fun _ => False) w wr) (fun _ i _ => s.size - (intOf i).toNat)
    case atStart => exact ⟨0, 0, Nat.zero_le _, rfl, rfl, rfl, Kept.refl _ _⟩
    case round =>
      obtain ⟨k, m, hk, rfl, rfl, hm, hkr⟩ := hrel
      have HM : Hid (setN s k = some m) := hm
      have hm2 := setN_lt hm
      clear hm
      by_cases hlt : k < s.size
      · have hki : (k : Int) < (s.size : Int) := by omega
        have hbn := byteN_get hlt
        have hb2 := byteN_lt s k
        have hst : setN s (k + 1) = setStep (some m) (byteN s k) := by rw [setN, HM.out]
        have HST : Hid _ := hst
        clear hst
        have HNO : Hid (setStep (some m) (byteN s k) = none → lettersZ s = -1) := fun h => lettersZ_bad HD.out (show k + 1 ≤ s.size by omega) (by rw [HST.out, h])
        by_cases c1 : byteN s k < 97
        · have d1 : ((s[k]).toNat : Int) < 97 := by omega
          have HE : Hid (lettersZ s = -1) := HNO.out (by rw [setStep, if_neg (by omega)])
          go_upto_region 7 with fail
          go_region
          go_wp2
          go_ret
          exact ⟨ret_int HE.out.symm, by first | exact hkr.drew | exact hkr.drewN _ | exact hkr⟩
        · by_cases c2 : 104 < byteN s k
          · have d1 : ¬ ((s[k]).toNat : Int) < 97 := by omega
            have d2 : (104 : Int) < ((s[k]).toNat : Int) := by omega
            have HE : Hid (lettersZ s = -1) := HNO.out (by rw [setStep, if_neg (by omega)])
            go_upto_region 7 with fail
            go_region
            go_wp2
            go_ret
            exact ⟨ret_int HE.out.symm, by first | exact hkr.drew | exact hkr.drewN _ | exact hkr⟩
          · have d1 : ¬ ((s[k]).toNat : Int) < 97 := by omega
            have d2 : ¬ (104 : Int) < ((s[k]).toNat : Int) := by omega
            have FIN : Hid (m < 2 ^ (byteN s k - 97) → ∃ c : Nat, c < 8 ∧ byteN s k = c + 97 ∧ setN s (k + 1) = some (m + 2 ^ c)) := fun h => ⟨byteN s k - 97, by omega, by omega, by rw [HST.out, setStep, if_pos ⟨by omega, by omega, h⟩]⟩
            cases k with
            | zero =>
              have hm0 : m = 0 := by have := HM.out; rw [setN] at this; injection this with this; exact this.symm
              subst hm0
              obtain ⟨c, hc8, hc, hset⟩ := FIN.out (Nat.two_pow_pos _)
              have HS : Hid _ := hset
              clear hset
              go_upto_region 7 with fail
              go_region
              have hcc : (c = 0 ∧ ((s[0]).toNat : Int) = 97) ∨ (c = 1 ∧ ((s[0]).toNat : Int) = 98) ∨ (c = 2 ∧ ((s[0]).toNat : Int) = 99) ∨ (c = 3 ∧ ((s[0]).toNat : Int) = 100) ∨ (c = 4 ∧ ((s[0]).toNat : Int) = 101) ∨ (c = 5 ∧ ((s[0]).toNat : Int) = 102) ∨ (c = 6 ∧ ((s[0]).toNat : Int) = 103) ∨ (c = 7 ∧ ((s[0]).toNat : Int) = 104) := by omega
              clear hbn hc hc8 d1 d2 c1 c2
              rcases hcc with ⟨rfl, hce⟩ | ⟨rfl, hce⟩ | ⟨rfl, hce⟩ | ⟨rfl, hce⟩ | ⟨rfl, hce⟩ | ⟨rfl, hce⟩ | ⟨rfl, hce⟩ | ⟨rfl, hce⟩
              all_goals
                go_wp2
                go_roundw
                case rel => exact ⟨1, _, by omega, by simp, by simp, HS.out, by first | exact hkr.drew | exact hkr.drewN _ | exact hkr⟩
                case measure => simp [intOf]; omega
            | succ j =>
              obtain ⟨p1, p2, p3, p4⟩ := setN_top HM.out
              have hlj : j < s.size := by omega
              have hbj := byteN_get hlj
              have hj0 : (0 : Int) ≤ (j : Int) + 1 := by omega
              have hj1 : (j : Int) + 1 < (s.size : Int) := by omega
              have hj2 : (j : Int) < (s.size : Int) := by omega
              have hj3 : (0 : Int) < (j : Int) + 1 := by omega
              by_cases hle : byteN s (j + 1) ≤ byteN s j
              · have d3 : ((s[j + 1]).toNat : Int) ≤ ((s[j]).toNat : Int) := by omega
                have HE : Hid (lettersZ s = -1) := HNO.out (by
                  have : 2 ^ (byteN s (j + 1) - 97) ≤ 2 ^ (byteN s j - 97) := Nat.pow_le_pow_right (by decide) (by omega)
                  rw [setStep, if_neg (by omega)])
                clear p3 p4
                go_upto_region 7 with fail
                go_region
                go_wp2
                go_ret
                exact ⟨ret_int HE.out.symm, by first | exact hkr.drew | exact hkr.drewN _ | exact hkr⟩
              · have d3 : ¬ ((s[j + 1]).toNat : Int) ≤ ((s[j]).toNat : Int) := by omega
                obtain ⟨c, hc8, hc, hset⟩ := FIN.out (by
                  have : 2 ^ (byteN s j - 97 + 1) ≤ 2 ^ (byteN s (j + 1) - 97) := Nat.pow_le_pow_right (by decide) (by omega)
                  omega)
                have HS : Hid _ := hset
                clear hset p3 p4
                go_upto_region 7 with fail
                go_region
                have hcc : (c = 0 ∧ ((s[j + 1]).toNat : Int) = 97) ∨ (c = 1 ∧ ((s[j + 1]).toNat : Int) = 98) ∨ (c = 2 ∧ ((s[j + 1]).toNat : Int) = 99) ∨ (c = 3 ∧ ((s[j + 1]).toNat : Int) = 100) ∨ (c = 4 ∧ ((s[j + 1]).toNat : Int) = 101) ∨ (c = 5 ∧ ((s[j + 1]).toNat : Int) = 102) ∨ (c = 6 ∧ ((s[j + 1]).toNat : Int) = 103) ∨ (c = 7 ∧ ((s[j + 1]).toNat : Int) = 104) := by omega
                clear hbn hc hc8 d1 d2 d3 c1 c2
                rcases hcc with ⟨rfl, hce⟩ | ⟨rfl, hce⟩ | ⟨rfl, hce⟩ | ⟨rfl, hce⟩ | ⟨rfl, hce⟩ | ⟨rfl, hce⟩ | ⟨rfl, hce⟩ | ⟨rfl, hce⟩
                all_goals
                  go_wp2
                  go_roundw
                  case rel => exact ⟨j + 1 + 1, _, by omega, by simp, by simp, HS.out, by first | exact hkr.drew | exact hkr.drewN _ | exact hkr⟩
                  case measure => simp [intOf]; omega
      · obtain rfl : k = s.size := by omega
        have HE : Hid (lettersZ s = (m : Int)) := by rw [Hid, lettersZ, if_neg HD.out, HM.out]
        go_wp2
        go_ret
        exact ⟨ret_int HE.out.symm, hkr⟩
end Go.Proofs.YtdbpdanocpfboabGreatDoor
