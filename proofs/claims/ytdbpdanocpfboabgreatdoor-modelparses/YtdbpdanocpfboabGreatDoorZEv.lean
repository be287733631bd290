import Derived.Test.YtdbpdanocpfboabGreatDoorZBun04
/- What is so of all that a list has: every, ContainsFunc, IndexFunc. -/
namespace Go.Proofs.YtdbpdanocpfboabGreatDoor
open Go.RowKit

/-- a function value that answers whether something is so -/
def PredK (g : Nat) (lb : Array Value) (w : World) (x : Value) (q : Bool) : Prop := ∀ W, Kept (fun _ => False) w W → Calls Tryz.prog g (#[x] ++ lb) W fun e W' => Kept (fun _ => False) W W' ∧ e = .returned (.bool q)
theorem all_range_no {n k : Nat} {p : Nat → Bool} (hk : k < n) (h : p k = false) : (List.range n).all p = false := by
  rw [List.all_eq_false]
  exact ⟨k, by simpa using hk, by simp [h]⟩
theorem all_range_yes {n : Nat} {p : Nat → Bool} (h : ∀ j, j < n → p j = true) : (List.range n).all p = true := by
  rw [List.all_eq_true]
  intro x hx
  exact h x (by simpa using hx)

set_option maxRecDepth 100000 in
set_option maxHeartbeats 1000000 in
theorem cl80 (g : Nat) (lb : Array Value) (eg : ∀ args w, (callFunc g args).run Tryz.prog w = .ok (.enter g args) w) (w : World) (bx : Nat) (x : Value) (q : Bool) (hb : w.cell? ⟨bx, 0, none⟩ = some (.func (.func g) #[] lb)) (hc : Calls Tryz.prog g (#[x] ++ lb) w fun e W' => Kept (fun _ => False) w W' ∧ e = .returned (.bool q)) :
    Calls Tryz.prog 80 #[x, .pointer (some ⟨bx, 0, none⟩)] w fun e w' => Kept (fun _ => False) w w' ∧ e = .returned (.bool (!q)) := by
  go_enter Tryz.func80, Tryz.ntmps80
  go_wp2_with (go_at_fn g; refine hc.mono ?_; rintro e w1 ⟨k1, rfl⟩)
  go_ret
  exact ⟨k1, rfl⟩

set_option maxRecDepth 100000 in
set_option maxHeartbeats 1000000 in
theorem every59 (g : Nat) (lb : Array Value) (eg : ∀ args w, (callFunc g args).run Tryz.prog w = .ok (.enter g args) w) (w : World) (B : Nat) (v : Value) (cs : List Value) (p : Nat → Bool) (hv : LsV B w v cs) (hB : B ≤ w.heap.size) (hp : ∀ (i : Nat) (h : i < cs.length), PredK g lb w cs[i] (p i)) :
    Calls Tryz.prog 59 #[v, .func (.func g) #[] lb] w fun e w' => Kept (fun _ => False) w w' ∧ e = .returned (.bool ((List.range cs.length).all p)) := by
  obtain ⟨a, cap, rfl, hl⟩ := hv.form
  obtain ⟨W0, hW0⟩ : ∃ W0, W0 = w.alloc (.cells #[.func (.func g) #[] lb] 81) := ⟨_, rfl⟩
  have k0 : Kept (fun _ => False) w W0 := by rw [hW0]; exact (Kept.refl _ _).alloc _
  have bx0 : W0.cell? ⟨w.heap.size, 0, none⟩ = some (.func (.func g) #[] lb) := by rw [hW0]; simp
  have HV : Hid (LsV B W0 (.slice a cs.length cap) cs) := hv.kept k0 hB
  have hB0 : B ≤ W0.heap.size := Nat.le_trans hB k0.size
  have HP : Hid (∀ W, Kept (fun _ => False) W0 W → ∀ (i : Nat) (h : i < cs.length), Calls Tryz.prog 80 #[cs[i], .pointer (some ⟨w.heap.size, 0, none⟩)] W fun e w' => Kept (fun _ => False) W w' ∧ e = .returned (.bool (!(p i)))) := by
    intro W hk i hi
    refine cl80 g lb eg W w.heap.size cs[i] (p i) ((hk.cell (p := ⟨w.heap.size, 0, none⟩) (lt_of_cell bx0) (fun f => f)).trans bx0) (hp i hi W (k0.trans hk (fun _ _ f => f)))
  have HIX : Hid (Calls Tryz.prog 99 #[.slice a cs.length cap, .func (.func 80) #[] #[.pointer (some ⟨w.heap.size, 0, none⟩)]] W0 fun e w' => Kept (fun _ => False) W0 w' ∧ ∃ z : Int, e = .returned (.int .i64 z) ∧ (0 ≤ z ↔ (List.range cs.length).all p = false)) := by
    clear hp hW0 hv
    rw [Hid]
    go_enter Tryz.func99, Tryz.ntmps99
    go_wp2
    go_loopw [8] (fun iv wr => ∃ k : Nat, k ≤ cs.length ∧ iv = .int .i64 k ∧ (∀ j, j < k → p j = true) ∧ Kept (fun _ => False) W0 wr) (fun iv _ => cs.length - (intOf iv).toNat)
    case atStart => exact ⟨0, Nat.zero_le _, rfl, fun j h => absurd h (by omega), Kept.refl _ _⟩
    case round =>
      obtain ⟨k, hk, rfl, hall, hkr⟩ := hrel
      have HA : Hid (∀ j, j < k → p j = true) := hall
      clear hall
      by_cases hlt : k < cs.length
      · have hki : (k : Int) < (cs.length : Int) := by omega
        obtain ⟨b, off, rfl, _, hc⟩ := (HV.out.kept hkr hB0).cell (List.getElem?_eq_getElem hlt)
        have hcall := HP.out wr hkr k hlt
        generalize hx : cs[k] = x at *
        cases hq : p k with
        | false =>
          have HE : Hid ((List.range cs.length).all p = false) := all_range_no hlt hq
          rw [hq] at hcall
          go_wp2_with (go_at_call 80; refine hcall.mono ?_; rintro e w1 ⟨k1, rfl⟩)
          go_ret
          exact ⟨hkr.trans k1 (fun _ _ f => f), _, rfl, by rw [HE.out]; simp⟩
        | true =>
          rw [hq] at hcall
          go_wp2_with (go_at_call 80; refine hcall.mono ?_; rintro e w1 ⟨k1, rfl⟩)
          go_roundw
          case rel =>
            refine ⟨k + 1, by omega, by simp, fun j hj => ?_, hkr.trans k1 (fun _ _ f => f)⟩
            by_cases e : j = k
            · subst e; exact hq
            · exact HA.out j (by omega)
          case measure => simp [intOf]; omega
      · obtain rfl : k = cs.length := by omega
        have HE : Hid ((List.range cs.length).all p = true) := all_range_yes HA.out
        go_wp2
        go_ret
        exact ⟨hkr, _, rfl, by rw [HE.out]; simp⟩
  clear hp hv
  have HCF : Hid (Calls Tryz.prog 79 #[.slice a cs.length cap, .func (.func 80) #[] #[.pointer (some ⟨w.heap.size, 0, none⟩)]] W0 fun e w' => Kept (fun _ => False) W0 w' ∧ e = .returned (.bool (!(List.range cs.length).all p))) := by
    clear hW0
    rw [Hid]
    go_enter Tryz.func79, Tryz.ntmps79
    go_wp2_with (go_at_call 99; refine HIX.out.mono ?_; rintro e w1 ⟨k1, z, rfl, hz⟩; have HZ : Hid (0 ≤ z ↔ (List.range cs.length).all p = false) := hz; clear hz)
    go_ret
    refine ⟨k1, ret_bool ?_⟩
    cases hq : (List.range cs.length).all p with
    | false =>
      have h1 : 0 ≤ z := HZ.out.2 hq
      simp [h1]
    | true =>
      have h1 : ¬ 0 ≤ z := fun h => by have := HZ.out.1 h; rw [hq] at this; cases this
      simp [h1]
  go_enter Tryz.func59, Tryz.ntmps59
  go_upto_region 1 with fail
  rw [← hW0]
  clear hW0
  go_wp2_with (go_at_call 79; refine HCF.out.mono ?_; rintro e w1 ⟨k1, rfl⟩)
  go_ret
  exact ⟨k0.trans k1 (fun _ _ f => f), ret_bool (by simp)⟩

set_option maxRecDepth 100000 in
set_option maxHeartbeats 1000000 in
theorem cl82 (g : Nat) (lb : Array Value) (eg : ∀ args w, (callFunc g args).run Tryz.prog w = .ok (.enter g args) w) (w : World) (bx : Nat) (x : Value) (q : Bool) (hb : w.cell? ⟨bx, 0, none⟩ = some (.func (.func g) #[] lb)) (hc : Calls Tryz.prog g (#[x] ++ lb) w fun e W' => Kept (fun _ => False) w W' ∧ e = .returned (.bool q)) :
    Calls Tryz.prog 82 #[x, .pointer (some ⟨bx, 0, none⟩)] w fun e w' => Kept (fun _ => False) w w' ∧ e = .returned (.bool (!q)) := by
  go_enter Tryz.func82, Tryz.ntmps82
  go_wp2_with (go_at_fn g; refine hc.mono ?_; rintro e w1 ⟨k1, rfl⟩)
  go_ret
  exact ⟨k1, rfl⟩

set_option maxRecDepth 100000 in
set_option maxHeartbeats 1000000 in
theorem every60 (g : Nat) (lb : Array Value) (eg : ∀ args w, (callFunc g args).run Tryz.prog w = .ok (.enter g args) w) (w : World) (B : Nat) (v : Value) (cs : List Value) (p : Nat → Bool) (hv : LsV B w v cs) (hB : B ≤ w.heap.size) (hp : ∀ (i : Nat) (h : i < cs.length), PredK g lb w cs[i] (p i)) :
    Calls Tryz.prog 60 #[v, .func (.func g) #[] lb] w fun e w' => Kept (fun _ => False) w w' ∧ e = .returned (.bool ((List.range cs.length).all p)) := by
  obtain ⟨a, cap, rfl, hl⟩ := hv.form
  obtain ⟨W0, hW0⟩ : ∃ W0, W0 = w.alloc (.cells #[.func (.func g) #[] lb] 39) := ⟨_, rfl⟩
  have k0 : Kept (fun _ => False) w W0 := by rw [hW0]; exact (Kept.refl _ _).alloc _
  have bx0 : W0.cell? ⟨w.heap.size, 0, none⟩ = some (.func (.func g) #[] lb) := by rw [hW0]; simp
  have HV : Hid (LsV B W0 (.slice a cs.length cap) cs) := hv.kept k0 hB
  have hB0 : B ≤ W0.heap.size := Nat.le_trans hB k0.size
  have HP : Hid (∀ W, Kept (fun _ => False) W0 W → ∀ (i : Nat) (h : i < cs.length), Calls Tryz.prog 82 #[cs[i], .pointer (some ⟨w.heap.size, 0, none⟩)] W fun e w' => Kept (fun _ => False) W w' ∧ e = .returned (.bool (!(p i)))) := by
    intro W hk i hi
    refine cl82 g lb eg W w.heap.size cs[i] (p i) ((hk.cell (p := ⟨w.heap.size, 0, none⟩) (lt_of_cell bx0) (fun f => f)).trans bx0) (hp i hi W (k0.trans hk (fun _ _ f => f)))
  have HIX : Hid (Calls Tryz.prog 100 #[.slice a cs.length cap, .func (.func 82) #[] #[.pointer (some ⟨w.heap.size, 0, none⟩)]] W0 fun e w' => Kept (fun _ => False) W0 w' ∧ ∃ z : Int, e = .returned (.int .i64 z) ∧ (0 ≤ z ↔ (List.range cs.length).all p = false)) := by
    clear hp hW0 hv
    rw [Hid]
    go_enter Tryz.func100, Tryz.ntmps100
    go_wp2
    go_loopw [8] (fun iv wr => ∃ k : Nat, k ≤ cs.length ∧ iv = .int .i64 k ∧ (∀ j, j < k → p j = true) ∧ Kept (fun _ => False) W0 wr) (fun iv _ => cs.length - (intOf iv).toNat)
    case atStart => exact ⟨0, Nat.zero_le _, rfl, fun j h => absurd h (by omega), Kept.refl _ _⟩
    case round =>
      obtain ⟨k, hk, rfl, hall, hkr⟩ := hrel
      have HA : Hid (∀ j, j < k → p j = true) := hall
      clear hall
      by_cases hlt : k < cs.length
      · have hki : (k : Int) < (cs.length : Int) := by omega
        obtain ⟨b, off, rfl, _, hc⟩ := (HV.out.kept hkr hB0).cell (List.getElem?_eq_getElem hlt)
        have hcall := HP.out wr hkr k hlt
        generalize hx : cs[k] = x at *
        cases hq : p k with
        | false =>
          have HE : Hid ((List.range cs.length).all p = false) := all_range_no hlt hq
          rw [hq] at hcall
          go_wp2_with (go_at_call 82; refine hcall.mono ?_; rintro e w1 ⟨k1, rfl⟩)
          go_ret
          exact ⟨hkr.trans k1 (fun _ _ f => f), _, rfl, by rw [HE.out]; simp⟩
        | true =>
          rw [hq] at hcall
          go_wp2_with (go_at_call 82; refine hcall.mono ?_; rintro e w1 ⟨k1, rfl⟩)
          go_roundw
          case rel =>
            refine ⟨k + 1, by omega, by simp, fun j hj => ?_, hkr.trans k1 (fun _ _ f => f)⟩
            by_cases e : j = k
            · subst e; exact hq
            · exact HA.out j (by omega)
          case measure => simp [intOf]; omega
      · obtain rfl : k = cs.length := by omega
        have HE : Hid ((List.range cs.length).all p = true) := all_range_yes HA.out
        go_wp2
        go_ret
        exact ⟨hkr, _, rfl, by rw [HE.out]; simp⟩
  clear hp hv
  have HCF : Hid (Calls Tryz.prog 81 #[.slice a cs.length cap, .func (.func 82) #[] #[.pointer (some ⟨w.heap.size, 0, none⟩)]] W0 fun e w' => Kept (fun _ => False) W0 w' ∧ e = .returned (.bool (!(List.range cs.length).all p))) := by
    clear hW0
    rw [Hid]
    go_enter Tryz.func81, Tryz.ntmps81
    go_wp2_with (go_at_call 100; refine HIX.out.mono ?_; rintro e w1 ⟨k1, z, rfl, hz⟩; have HZ : Hid (0 ≤ z ↔ (List.range cs.length).all p = false) := hz; clear hz)
    go_ret
    refine ⟨k1, ret_bool ?_⟩
    cases hq : (List.range cs.length).all p with
    | false =>
      have h1 : 0 ≤ z := HZ.out.2 hq
      simp [h1]
    | true =>
      have h1 : ¬ 0 ≤ z := fun h => by have := HZ.out.1 h; rw [hq] at this; cases this
      simp [h1]
  go_enter Tryz.func60, Tryz.ntmps60
  go_upto_region 1 with fail
  rw [← hW0]
  clear hW0
  go_wp2_with (go_at_call 81; refine HCF.out.mono ?_; rintro e w1 ⟨k1, rfl⟩)
  go_ret
  exact ⟨k0.trans k1 (fun _ _ f => f), ret_bool (by simp)⟩

set_option maxRecDepth 100000 in
set_option maxHeartbeats 1000000 in
theorem cl86 (g : Nat) (lb : Array Value) (eg : ∀ args w, (callFunc g args).run Tryz.prog w = .ok (.enter g args) w) (w : World) (bx : Nat) (x : Value) (q : Bool) (hb : w.cell? ⟨bx, 0, none⟩ = some (.func (.func g) #[] lb)) (hc : Calls Tryz.prog g (#[x] ++ lb) w fun e W' => Kept (fun _ => False) w W' ∧ e = .returned (.bool q)) :
    Calls Tryz.prog 86 #[x, .pointer (some ⟨bx, 0, none⟩)] w fun e w' => Kept (fun _ => False) w w' ∧ e = .returned (.bool (!q)) := by
  go_enter Tryz.func86, Tryz.ntmps86
  go_wp2_with (go_at_fn g; refine hc.mono ?_; rintro e w1 ⟨k1, rfl⟩)
  go_ret
  exact ⟨k1, rfl⟩

set_option maxRecDepth 100000 in
set_option maxHeartbeats 1000000 in
theorem every62 (g : Nat) (lb : Array Value) (eg : ∀ args w, (callFunc g args).run Tryz.prog w = .ok (.enter g args) w) (w : World) (B : Nat) (v : Value) (cs : List Value) (p : Nat → Bool) (hv : LsV B w v cs) (hB : B ≤ w.heap.size) (hp : ∀ (i : Nat) (h : i < cs.length), PredK g lb w cs[i] (p i)) :
    Calls Tryz.prog 62 #[v, .func (.func g) #[] lb] w fun e w' => Kept (fun _ => False) w w' ∧ e = .returned (.bool ((List.range cs.length).all p)) := by
  obtain ⟨a, cap, rfl, hl⟩ := hv.form
  obtain ⟨W0, hW0⟩ : ∃ W0, W0 = w.alloc (.cells #[.func (.func g) #[] lb] 83) := ⟨_, rfl⟩
  have k0 : Kept (fun _ => False) w W0 := by rw [hW0]; exact (Kept.refl _ _).alloc _
  have bx0 : W0.cell? ⟨w.heap.size, 0, none⟩ = some (.func (.func g) #[] lb) := by rw [hW0]; simp
  have HV : Hid (LsV B W0 (.slice a cs.length cap) cs) := hv.kept k0 hB
  have hB0 : B ≤ W0.heap.size := Nat.le_trans hB k0.size
  have HP : Hid (∀ W, Kept (fun _ => False) W0 W → ∀ (i : Nat) (h : i < cs.length), Calls Tryz.prog 86 #[cs[i], .pointer (some ⟨w.heap.size, 0, none⟩)] W fun e w' => Kept (fun _ => False) W w' ∧ e = .returned (.bool (!(p i)))) := by
    intro W hk i hi
    refine cl86 g lb eg W w.heap.size cs[i] (p i) ((hk.cell (p := ⟨w.heap.size, 0, none⟩) (lt_of_cell bx0) (fun f => f)).trans bx0) (hp i hi W (k0.trans hk (fun _ _ f => f)))
  have HIX : Hid (Calls Tryz.prog 103 #[.slice a cs.length cap, .func (.func 86) #[] #[.pointer (some ⟨w.heap.size, 0, none⟩)]] W0 fun e w' => Kept (fun _ => False) W0 w' ∧ ∃ z : Int, e = .returned (.int .i64 z) ∧ (0 ≤ z ↔ (List.range cs.length).all p = false)) := by
    clear hp hW0 hv
    rw [Hid]
    go_enter Tryz.func103, Tryz.ntmps103
    go_wp2
    go_loopw [8] (fun iv wr => ∃ k : Nat, k ≤ cs.length ∧ iv = .int .i64 k ∧ (∀ j, j < k → p j = true) ∧ Kept (fun _ => False) W0 wr) (fun iv _ => cs.length - (intOf iv).toNat)
    case atStart => exact ⟨0, Nat.zero_le _, rfl, fun j h => absurd h (by omega), Kept.refl _ _⟩
    case round =>
      obtain ⟨k, hk, rfl, hall, hkr⟩ := hrel
      have HA : Hid (∀ j, j < k → p j = true) := hall
      clear hall
      by_cases hlt : k < cs.length
      · have hki : (k : Int) < (cs.length : Int) := by omega
        obtain ⟨b, off, rfl, _, hc⟩ := (HV.out.kept hkr hB0).cell (List.getElem?_eq_getElem hlt)
        have hcall := HP.out wr hkr k hlt
        generalize hx : cs[k] = x at *
        cases hq : p k with
        | false =>
          have HE : Hid ((List.range cs.length).all p = false) := all_range_no hlt hq
          rw [hq] at hcall
          go_wp2_with (go_at_call 86; refine hcall.mono ?_; rintro e w1 ⟨k1, rfl⟩)
          go_ret
          exact ⟨hkr.trans k1 (fun _ _ f => f), _, rfl, by rw [HE.out]; simp⟩
        | true =>
          rw [hq] at hcall
          go_wp2_with (go_at_call 86; refine hcall.mono ?_; rintro e w1 ⟨k1, rfl⟩)
          go_roundw
          case rel =>
            refine ⟨k + 1, by omega, by simp, fun j hj => ?_, hkr.trans k1 (fun _ _ f => f)⟩
            by_cases e : j = k
            · subst e; exact hq
            · exact HA.out j (by omega)
          case measure => simp [intOf]; omega
      · obtain rfl : k = cs.length := by omega
        have HE : Hid ((List.range cs.length).all p = true) := all_range_yes HA.out
        go_wp2
        go_ret
        exact ⟨hkr, _, rfl, by rw [HE.out]; simp⟩
  clear hp hv
  have HCF : Hid (Calls Tryz.prog 85 #[.slice a cs.length cap, .func (.func 86) #[] #[.pointer (some ⟨w.heap.size, 0, none⟩)]] W0 fun e w' => Kept (fun _ => False) W0 w' ∧ e = .returned (.bool (!(List.range cs.length).all p))) := by
    clear hW0
    rw [Hid]
    go_enter Tryz.func85, Tryz.ntmps85
    go_wp2_with (go_at_call 103; refine HIX.out.mono ?_; rintro e w1 ⟨k1, z, rfl, hz⟩; have HZ : Hid (0 ≤ z ↔ (List.range cs.length).all p = false) := hz; clear hz)
    go_ret
    refine ⟨k1, ret_bool ?_⟩
    cases hq : (List.range cs.length).all p with
    | false =>
      have h1 : 0 ≤ z := HZ.out.2 hq
      simp [h1]
    | true =>
      have h1 : ¬ 0 ≤ z := fun h => by have := HZ.out.1 h; rw [hq] at this; cases this
      simp [h1]
  go_enter Tryz.func62, Tryz.ntmps62
  go_upto_region 1 with fail
  rw [← hW0]
  clear hW0
  go_wp2_with (go_at_call 85; refine HCF.out.mono ?_; rintro e w1 ⟨k1, rfl⟩)
  go_ret
  exact ⟨k0.trans k1 (fun _ _ f => f), ret_bool (by simp)⟩

set_option maxRecDepth 100000 in
set_option maxHeartbeats 1000000 in
theorem cl102 (g : Nat) (lb : Array Value) (eg : ∀ args w, (callFunc g args).run Tryz.prog w = .ok (.enter g args) w) (w : World) (bx : Nat) (x : Value) (q : Bool) (hb : w.cell? ⟨bx, 0, none⟩ = some (.func (.func g) #[] lb)) (hc : Calls Tryz.prog g (#[x] ++ lb) w fun e W' => Kept (fun _ => False) w W' ∧ e = .returned (.bool q)) :
    Calls Tryz.prog 102 #[x, .pointer (some ⟨bx, 0, none⟩)] w fun e w' => Kept (fun _ => False) w w' ∧ e = .returned (.bool (!q)) := by
  go_enter Tryz.func102, Tryz.ntmps102
  go_wp2_with (go_at_fn g; refine hc.mono ?_; rintro e w1 ⟨k1, rfl⟩)
  go_ret
  exact ⟨k1, rfl⟩

set_option maxRecDepth 100000 in
set_option maxHeartbeats 1000000 in
theorem every83 (g : Nat) (lb : Array Value) (eg : ∀ args w, (callFunc g args).run Tryz.prog w = .ok (.enter g args) w) (w : World) (B : Nat) (v : Value) (cs : List Value) (p : Nat → Bool) (hv : LsV B w v cs) (hB : B ≤ w.heap.size) (hp : ∀ (i : Nat) (h : i < cs.length), PredK g lb w cs[i] (p i)) :
    Calls Tryz.prog 83 #[v, .func (.func g) #[] lb] w fun e w' => Kept (fun _ => False) w w' ∧ e = .returned (.bool ((List.range cs.length).all p)) := by
  obtain ⟨a, cap, rfl, hl⟩ := hv.form
  obtain ⟨W0, hW0⟩ : ∃ W0, W0 = w.alloc (.cells #[.func (.func g) #[] lb] 112) := ⟨_, rfl⟩
  have k0 : Kept (fun _ => False) w W0 := by rw [hW0]; exact (Kept.refl _ _).alloc _
  have bx0 : W0.cell? ⟨w.heap.size, 0, none⟩ = some (.func (.func g) #[] lb) := by rw [hW0]; simp
  have HV : Hid (LsV B W0 (.slice a cs.length cap) cs) := hv.kept k0 hB
  have hB0 : B ≤ W0.heap.size := Nat.le_trans hB k0.size
  have HP : Hid (∀ W, Kept (fun _ => False) W0 W → ∀ (i : Nat) (h : i < cs.length), Calls Tryz.prog 102 #[cs[i], .pointer (some ⟨w.heap.size, 0, none⟩)] W fun e w' => Kept (fun _ => False) W w' ∧ e = .returned (.bool (!(p i)))) := by
    intro W hk i hi
    refine cl102 g lb eg W w.heap.size cs[i] (p i) ((hk.cell (p := ⟨w.heap.size, 0, none⟩) (lt_of_cell bx0) (fun f => f)).trans bx0) (hp i hi W (k0.trans hk (fun _ _ f => f)))
  have HIX : Hid (Calls Tryz.prog 116 #[.slice a cs.length cap, .func (.func 102) #[] #[.pointer (some ⟨w.heap.size, 0, none⟩)]] W0 fun e w' => Kept (fun _ => False) W0 w' ∧ ∃ z : Int, e = .returned (.int .i64 z) ∧ (0 ≤ z ↔ (List.range cs.length).all p = false)) := by
    clear hp hW0 hv
    rw [Hid]
    go_enter Tryz.func116, Tryz.ntmps116
    go_wp2
    go_loopw [8] (fun iv wr => ∃ k : Nat, k ≤ cs.length ∧ iv = .int .i64 k ∧ (∀ j, j < k → p j = true) ∧ Kept (fun _ => False) W0 wr) (fun iv _ => cs.length - (intOf iv).toNat)
    case atStart => exact ⟨0, Nat.zero_le _, rfl, fun j h => absurd h (by omega), Kept.refl _ _⟩
    case round =>
      obtain ⟨k, hk, rfl, hall, hkr⟩ := hrel
      have HA : Hid (∀ j, j < k → p j = true) := hall
      clear hall
      by_cases hlt : k < cs.length
      · have hki : (k : Int) < (cs.length : Int) := by omega
        obtain ⟨b, off, rfl, _, hc⟩ := (HV.out.kept hkr hB0).cell (List.getElem?_eq_getElem hlt)
        have hcall := HP.out wr hkr k hlt
        generalize hx : cs[k] = x at *
        cases hq : p k with
        | false =>
          have HE : Hid ((List.range cs.length).all p = false) := all_range_no hlt hq
          rw [hq] at hcall
          go_wp2_with (go_at_call 102; refine hcall.mono ?_; rintro e w1 ⟨k1, rfl⟩)
          go_ret
          exact ⟨hkr.trans k1 (fun _ _ f => f), _, rfl, by rw [HE.out]; simp⟩
        | true =>
          rw [hq] at hcall
          go_wp2_with (go_at_call 102; refine hcall.mono ?_; rintro e w1 ⟨k1, rfl⟩)
          go_roundw
          case rel =>
            refine ⟨k + 1, by omega, by simp, fun j hj => ?_, hkr.trans k1 (fun _ _ f => f)⟩
            by_cases e : j = k
            · subst e; exact hq
            · exact HA.out j (by omega)
          case measure => simp [intOf]; omega
      · obtain rfl : k = cs.length := by omega
        have HE : Hid ((List.range cs.length).all p = true) := all_range_yes HA.out
        go_wp2
        go_ret
        exact ⟨hkr, _, rfl, by rw [HE.out]; simp⟩
  clear hp hv
  have HCF : Hid (Calls Tryz.prog 101 #[.slice a cs.length cap, .func (.func 102) #[] #[.pointer (some ⟨w.heap.size, 0, none⟩)]] W0 fun e w' => Kept (fun _ => False) W0 w' ∧ e = .returned (.bool (!(List.range cs.length).all p))) := by
    clear hW0
    rw [Hid]
    go_enter Tryz.func101, Tryz.ntmps101
    go_wp2_with (go_at_call 116; refine HIX.out.mono ?_; rintro e w1 ⟨k1, z, rfl, hz⟩; have HZ : Hid (0 ≤ z ↔ (List.range cs.length).all p = false) := hz; clear hz)
    go_ret
    refine ⟨k1, ret_bool ?_⟩
    cases hq : (List.range cs.length).all p with
    | false =>
      have h1 : 0 ≤ z := HZ.out.2 hq
      simp [h1]
    | true =>
      have h1 : ¬ 0 ≤ z := fun h => by have := HZ.out.1 h; rw [hq] at this; cases this
      simp [h1]
  go_enter Tryz.func83, Tryz.ntmps83
  go_upto_region 1 with fail
  rw [← hW0]
  clear hW0
  go_wp2_with (go_at_call 101; refine HCF.out.mono ?_; rintro e w1 ⟨k1, rfl⟩)
  go_ret
  exact ⟨k0.trans k1 (fun _ _ f => f), ret_bool (by simp)⟩
end Go.Proofs.YtdbpdanocpfboabGreatDoor
