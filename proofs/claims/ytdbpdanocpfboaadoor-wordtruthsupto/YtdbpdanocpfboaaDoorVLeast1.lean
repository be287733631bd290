/- Walks of package word: fromEnd. -/
import Derived.Test.YtdbpdanocpfboaaDoorVPeriod
namespace Go.Proofs.YtdbpdanocpfboaaDoor
open Go.RowKit

set_option maxHeartbeats 1000000 in
theorem fromEnd69 (w : World) (B : Nat) (v : Value) (l : List Int) (n : Nat) (h : IntsV B w v l) (hl : 0 < l.length) (hl2 : l.length ≤ 20000) (hn : n ≤ 20000) :
    Calls Tryd.prog 69 #[v, .int .i64 (n : Int)] w fun e w' => w' = w ∧ e = .returned (.int .i64 (l.getD (l.length - 1 - n % l.length) 0)) := by
  rcases h.cases with ⟨rfl, _⟩ | ⟨_, b, off, cap, rfl, hcap, hcap2, hbB, hcell⟩
  · simp at hl
  have hq := Nat.mod_lt n hl
  obtain ⟨q, hqe⟩ : ∃ q, q = l.length - 1 - n % l.length := ⟨_, rfl⟩
  have hql : q < l.length := by omega
  have hc := hcell q hql
  have hqi : (q : Int) < (l.length : Int) := by omega
  have hmod : (n : Int).tmod (l.length : Int) = ((n % l.length : Nat) : Int) := by
    rw [Int.tmod_eq_emod_of_nonneg (by omega)]
    rfl
  have hsub : ((l.length : Int) - 1 - ((n % l.length : Nat) : Int)) = (q : Int) := by omega
  have hlz : ¬ (l.length : Int) = 0 := by omega
  have hlz2 : ¬ l.length = 0 := by omega
  have HE : Hid (l.getD (l.length - 1 - n % l.length) 0 = l[q]) := by
    rw [← hqe, List.getD_eq_getElem?_getD, List.getElem?_eq_getElem hql]
    rfl
  clear hcell hqe
  generalize hr : n % l.length = r at *
  clear hr
  go_enter Tryd.func69, Tryd.ntmps69
  go_wp2
  go_ret
  exact ⟨rfl, ret_int HE.out.symm⟩
end Go.Proofs.YtdbpdanocpfboaaDoor
