/- slices.Equal of ints. -/
import Derived.Test.YtdbpdanocpfboaaDoorVConcat
namespace Go.Proofs.YtdbpdanocpfboaaDoor
open Go.RowKit

set_option maxRecDepth 100000 in
set_option maxHeartbeats 1000000 in
theorem equal73 (w : World) (B C : Nat) (va vb : Value) (xs ys : List Int) (ha : IntsV B w va xs) (hb : IntsV C w vb ys) (hB : B ≤ w.heap.size) (hC : C ≤ w.heap.size) :
    Calls Tryd.prog 73 #[va, vb] w fun e w' => Kept (fun _ => False) w w' ∧ e = .returned (.bool (decide (xs = ys))) := by
  obtain ⟨aa, ac, rfl, hal⟩ := ha.form
  obtain ⟨ba, bc, rfl, hbl⟩ := hb.form
  by_cases hl : xs.length = ys.length
  · have HL : Hid _ := hl
    have HA : Hid (IntsV B w (.slice aa xs.length ac) xs) := ha
    have HB : Hid (IntsV C w (.slice ba ys.length bc) ys) := hb
    have hlb : ((xs.length : Int) != (ys.length : Int)) = false := by simp; omega
    clear ha hb hl
    go_enter Tryd.func73, Tryd.ntmps73
    go_wp2
    go_loopw [5, 13] (fun _ i wr => ∃ k : Nat, k ≤ xs.length ∧ i = .int .i64 k ∧ Kept (fun _ => False) w wr ∧ ∀ j, j < k → xs[j]? = ys[j]?) (fun _ i _ => xs.length - (intOf i).toNat)
    case atStart => exact ⟨0, Nat.zero_le _, rfl, Kept.refl _ _, fun j hj => absurd hj (by omega)⟩
    case round =>
      obtain ⟨k, hk, rfl, hkw, heq⟩ := hrel
      have HQ : Hid (∀ j, j < k → xs[j]? = ys[j]?) := heq
      clear heq
      by_cases hlt : k < xs.length
      · have hlt2 : k < ys.length := by have := HL.out; omega
        obtain ⟨_, _, e1, _, _, q1⟩ := HA.out.below (hkw.below hB (fun _ f => f.elim))
        obtain ⟨b1, o1, r1, _, d1⟩ := q1 k xs[k] (List.getElem?_eq_getElem hlt)
        obtain ⟨_, _, e2, _, _, q2⟩ := HB.out.below (hkw.below hC (fun _ f => f.elim))
        obtain ⟨b2, o2, r2, _, d2⟩ := q2 k ys[k] (List.getElem?_eq_getElem hlt2)
        cases e1
        cases e2
        subst r1 r2
        have hi1 : (k : Int) < (xs.length : Int) := by omega
        have hi2 : (k : Int) < (ys.length : Int) := by omega
        clear q1 q2
        have HX : Hid (xs[k]? = some xs[k]) := List.getElem?_eq_getElem hlt
        have HY : Hid (ys[k]? = some ys[k]) := List.getElem?_eq_getElem hlt2
        by_cases he : xs[k] = ys[k]
        · have HE : Hid (xs[k] = ys[k]) := he
          rw [he] at d1
          clear he
          generalize ys[k] = y at *
          go_wp2
          go_region
          go_wp2
          go_roundw
          case rel => exact ⟨k + 1, by omega, by go_num, hkw.drew, fun j hj => by
            by_cases e : j = k
            · subst e; rw [HX.out, HY.out, HE.out]
            · exact HQ.out j (by omega)⟩
          case measure => simp [intOf]; omega
        · have hneb : (xs[k] != ys[k]) = true := by simpa using he
          have HN : Hid (xs ≠ ys) := fun h => by
            have h1 : some xs[k] = some ys[k] := HX.out.symm.trans ((congrArg (fun l => l[k]?) h).trans HY.out)
            exact he (Option.some.inj h1)
          generalize xs[k] = x at *
          generalize ys[k] = y at *
          go_wp2
          go_region
          go_wp2
          go_ret
          exact ⟨hkw.drew, ret_bool (by simp [HN.out])⟩
      · have HN : Hid (xs = ys) := List.ext_getElem? fun j => by
          by_cases hj : j < k
          · exact HQ.out j hj
          · rw [List.getElem?_eq_none (by omega), List.getElem?_eq_none (by have := HL.out; omega)]
        have hi1 : ¬ (k : Int) < (xs.length : Int) := by omega
        go_wp2
        go_ret
        exact ⟨hkw, ret_bool (by simp [HN.out])⟩
  · have hne : xs ≠ ys := fun h => hl (by rw [h])
    have hlb : ((xs.length : Int) != (ys.length : Int)) = true := by simp; omega
    go_enter Tryd.func73, Tryd.ntmps73
    go_wp2
    go_ret
    exact ⟨Kept.refl _ _, ret_bool (by simp [hne])⟩
end Go.Proofs.YtdbpdanocpfboaaDoor
