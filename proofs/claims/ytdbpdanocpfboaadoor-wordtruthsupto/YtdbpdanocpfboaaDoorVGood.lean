/- Walks of package word: Good, At. -/
import Derived.Test.YtdbpdanocpfboaaDoorVKept
import Derived.Deep.RegionWith
import Derived.Deep.DeepMust
namespace Go.Proofs.YtdbpdanocpfboaaDoor
open Go.RowKit

/-- the slice v holds the ints xs, in a block below B -/
def IntsV (B : Nat) (w : World) (v : Value) (xs : List Int) : Prop :=
  ∃ (a : Option Addr) (cap : Nat), v = .slice a xs.length cap ∧ xs.length ≤ cap ∧ xs.length ≤ 17592186044416 ∧ ∀ i x, xs[i]? = some x → ∃ b off, a = some ⟨b, off, none⟩ ∧ b < B ∧ w.cell? ⟨b, off + i, none⟩ = some (.int .i64 x)

theorem IntsV.cases {B : Nat} {w : World} {v : Value} {xs : List Int} (h : IntsV B w v xs) : (xs = [] ∧ ∃ a cap, v = .slice a 0 cap ∧ 0 ≤ cap) ∨
    (xs ≠ [] ∧ ∃ b off cap, v = .slice (some ⟨b, off, none⟩) xs.length cap ∧ xs.length ≤ cap ∧ xs.length ≤ 17592186044416 ∧ b < B ∧ ∀ i (hi : i < xs.length), w.cell? ⟨b, off + i, none⟩ = some (.int .i64 xs[i])) := by
  obtain ⟨a, cap, e, hc, hc2, h⟩ := h
  cases xs with
  | nil => exact .inl ⟨rfl, a, cap, e, Nat.zero_le _⟩
  | cons x r =>
    obtain ⟨b, off, rfl, hb, _⟩ := h 0 x rfl
    refine .inr ⟨by simp, b, off, cap, e, hc, hc2, hb, fun i hi => ?_⟩
    obtain ⟨b', off', e', _, hx⟩ := h i (x :: r)[i] (List.getElem?_eq_getElem hi)
    cases e'
    exact hx
theorem IntsV.below {B : Nat} {w w' : World} {v : Value} {xs : List Int} (h : IntsV B w v xs) (hb : Below B w w') : IntsV B w' v xs := by
  obtain ⟨a, cap, e, hc, hc2, h⟩ := h
  refine ⟨a, cap, e, hc, hc2, fun i x hx => ?_⟩
  obtain ⟨b, off, e', hB, hc⟩ := h i x hx
  exact ⟨b, off, e', hB, (hb.cell (p := ⟨b, off + i, none⟩) hB).trans hc⟩
theorem IntsV.mono {B B' : Nat} {w : World} {v : Value} {xs : List Int} (h : IntsV B w v xs) (hb : B ≤ B') : IntsV B' w v xs := by
  obtain ⟨a, cap, e, hc, hc2, h⟩ := h
  refine ⟨a, cap, e, hc, hc2, fun i x hx => ?_⟩
  obtain ⟨b, off, e', hB, hc⟩ := h i x hx
  exact ⟨b, off, e', by omega, hc⟩

theorem ret_bool {a b : Bool} (h : a = b) : Ending.returned (.bool a) = .returned (.bool b) := by rw [h]
theorem ret_int {a b : Int} (h : a = b) : Ending.returned (.int .i64 a) = .returned (.int .i64 b) := by rw [h]

def okNum (x : Int) : Bool := decide (0 ≤ x) && decide (x ≤ 255)

set_option maxHeartbeats 400000 in
theorem good65_some (w : World) (b off cap : Nat) (xs : List Int) (hl : xs.length ≤ 17592186044416)
    (hc : ∀ i, (h : i < xs.length) → w.cell? ⟨b, off + i, none⟩ = some (.int .i64 xs[i])) :
    Calls Tryd.prog 65 #[.slice (some ⟨b, off, none⟩) xs.length cap] w fun e w' => e = .returned (.bool (xs.all okNum)) ∧ w' = w := by
  go_enter Tryd.func65, Tryd.ntmps65
  go_wp2
  go_loop [7] (fun i => ∃ k : Nat, k ≤ xs.length ∧ i = .int .i64 k ∧ ∀ j, (h : j < k) → (h' : j < xs.length) → okNum xs[j] = true) (fun i => xs.length - (intOf i).toNat)
  case atStart => exact ⟨0, Nat.zero_le _, rfl, by omega⟩
  case round =>
    obtain ⟨k, hk, rfl, hall⟩ := hrel
    by_cases hlt : k < xs.length
    · have hck := hc k hlt
      have hbad : okNum xs[k] = false → xs.all okNum = false := fun e => by
        rw [List.all_eq_false]
        exact ⟨xs[k], List.getElem_mem hlt, by simp [e]⟩
      have HB : Hid _ := hbad
      have HA : Hid (∀ j, (h : j < k) → (h' : j < xs.length) → okNum xs[j] = true) := hall
      clear hbad hall
      by_cases h1 : xs[k] < 0
      · go_wp2
        go_ret
        exact ⟨ret_bool (HB.out (by simp [okNum]; omega)).symm, rfl⟩
      · by_cases h2 : 255 < xs[k]
        · go_wp2
          go_ret
          exact ⟨ret_bool (HB.out (by simp [okNum]; omega)).symm, rfl⟩
        · go_wp2
          go_round
          case rel =>
            refine ⟨k + 1, by omega, by go_num, fun j hj hj' => ?_⟩
            by_cases e : j = k
            · subst e; simp [okNum]; omega
            · exact HA.out j (by omega) hj'
          case measure => simp [intOf]; omega
    · have he : xs.all okNum = true := by
        rw [List.all_eq_true]
        intro x hx
        obtain ⟨i, hi, rfl⟩ := List.mem_iff_getElem.1 hx
        exact hall i (by omega) hi
      have HE : Hid _ := he
      clear he
      go_wp2
      go_ret
      exact ⟨ret_bool HE.out.symm, rfl⟩

set_option maxHeartbeats 400000 in
theorem good65_nil (w : World) (a : Option Addr) (cap : Nat) : Calls Tryd.prog 65 #[.slice a 0 cap] w fun e w' => e = .returned (.bool true) ∧ w' = w := by
  go_enter Tryd.func65, Tryd.ntmps65
  go_wp2
  go_loop [7] (fun i => i = .int .i64 0) (fun _ => 0)
  case atStart => rfl
  case round =>
    subst hrel
    go_wp2
    go_ret
    exact ⟨rfl, rfl⟩

theorem good65 (w : World) (B : Nat) (v : Value) (xs : List Int) (h : IntsV B w v xs) : Calls Tryd.prog 65 #[v] w fun e w' => e = .returned (.bool (xs.all okNum)) ∧ w' = w := by
  rcases h.cases with ⟨rfl, a, cap, rfl, _⟩ | ⟨_, b, off, cap, rfl, h1, h2, _, hc⟩
  · exact good65_nil w a cap
  · exact good65_some w b off cap xs (by omega) hc

/-- a Word's value -/
def WordV (B : Nat) (w : World) (v : Value) (hd lp : List Int) : Prop := ∃ hv lv, v = .agg #[hv, lv] ∧ IntsV B w hv hd ∧ IntsV B w lv lp
theorem WordV.below {B : Nat} {w w' : World} {v : Value} {hd lp : List Int} (h : WordV B w v hd lp) (hb : Below B w w') : WordV B w' v hd lp := by
  obtain ⟨hv, lv, e, h1, h2⟩ := h
  exact ⟨hv, lv, e, h1.below hb, h2.below hb⟩
theorem WordV.mono {B B' : Nat} {w : World} {v : Value} {hd lp : List Int} (h : WordV B w v hd lp) (hb : B ≤ B') : WordV B' w v hd lp := by
  obtain ⟨hv, lv, e, h1, h2⟩ := h
  exact ⟨hv, lv, e, h1.mono hb, h2.mono hb⟩
theorem IntsV.form {B : Nat} {w : World} {v : Value} {xs : List Int} (h : IntsV B w v xs) : ∃ a cap, v = .slice a xs.length cap ∧ xs.length ≤ 17592186044416 := by
  obtain ⟨a, cap, e, h1, h2, _⟩ := h
  exact ⟨a, cap, e, by omega⟩

def goodW (hd lp : List Int) : Bool := !lp.isEmpty && decide (hd.length + lp.length ≤ 20000) && (hd.all okNum && lp.all okNum)

set_option maxHeartbeats 1000000 in
theorem good29 (w : World) (B : Nat) (v : Value) (hd lp : List Int) (h : WordV B w v hd lp) (hB : B ≤ w.heap.size) : Calls Tryd.prog 29 #[v] w fun e w' => e = .returned (.bool (goodW hd lp)) ∧ Kept (fun _ => False) w w' := by
  obtain ⟨hv, lv, rfl, h1, h2⟩ := h
  obtain ⟨ha, hc, e1, hl1⟩ := h1.form
  obtain ⟨la, lc, e2, hl2⟩ := h2.form
  have hk : Kept (fun _ => False) w (w.alloc (.cells #[hv, lv] 49)) := (Kept.refl _ _).alloc _
  have h1' := h1.below (hk.below hB (fun _ f => f.elim))
  have h2' := h2.below (hk.below hB (fun _ f => f.elim))
  have c1 := good65 _ B hv hd h1'
  have c2 := good65 _ B lv lp h2'
  subst e1 e2
  clear h1 h2 h1' h2'
  by_cases z1 : lp.length = 0
  · have z2 : goodW hd lp = false := by
      have : lp = [] := List.eq_nil_of_length_eq_zero z1
      simp [goodW, this]
    have Z2 : Hid _ := z2
    have z3 : ((lp.length : Int) == 0) = true := by simp [z1]
    clear z2 z1 c1 c2
    go_enter Tryd.func29, Tryd.ntmps29
    go_wp2
    go_ret
    exact ⟨ret_bool Z2.out.symm, hk⟩
  · have z3 : ((lp.length : Int) == 0) = false := beq_eq_false_iff_ne.2 (by omega)
    have hne : lp.isEmpty = false := by cases lp <;> simp_all
    by_cases z4 : 20000 < hd.length + lp.length
    · have Z2 : Hid (goodW hd lp = false) := by show goodW hd lp = false; simp [goodW]; omega
      have z5 : (20000 : Int) < (hd.length : Int) + (lp.length : Int) := by omega
      clear z1 c1 c2 hne
      go_enter Tryd.func29, Tryd.ntmps29
      go_wp2
      go_ret
      exact ⟨ret_bool Z2.out.symm, hk⟩
    · have Z2 : Hid (goodW hd lp = (hd.all okNum && lp.all okNum)) := by
        show goodW hd lp = _
        simp only [goodW, hne]
        simp
        omega
      have z5 : ¬ (20000 : Int) < (hd.length : Int) + (lp.length : Int) := by omega
      have C1 : Hid _ := c1
      have C2 : Hid _ := c2
      clear z1 hne z4 c1 c2
      generalize hd.all okNum = p at *
      generalize lp.all okNum = q at *
      cases p
      all_goals
        go_enter Tryd.func29, Tryd.ntmps29
        go_wp2_with (first | (go_at_call_of 65 (Value.slice ha hd.length hc); refine Calls.mono C1.out ?_; rintro e w' ⟨rfl, rfl⟩) | (go_at_call_of 65 (Value.slice la lp.length lc); refine Calls.mono C2.out ?_; rintro e w' ⟨rfl, rfl⟩))
        go_ret
        exact ⟨ret_bool Z2.out.symm, hk⟩
end Go.Proofs.YtdbpdanocpfboaaDoor
