/- slices.Concat of two. -/
import Derived.Test.YtdbpdanocpfboaaDoorVGrow
namespace Go.Proofs.YtdbpdanocpfboaaDoor
open Go.RowKit Go.Shelf

theorem append_ints_of {w0 w : World} {b n B : Nat} {xs ys : List Int} {v : Value} {t tx : TypeId} (htx : Tryd.prog.underlying tx = some (.slice 3)) (ht : Tryd.prog.underlying t = some (.slice 3)) (h : IRow w0 w b n xs) (hl : xs.length + ys.length ≤ n) (hv : IntsV B w v ys) :
    ∀ ty, (Builtin.append_ #[t, tx] ty #[.slice (some ⟨b, 0, none⟩) xs.length n, v]).run Tryd.prog w = .ok (.slice (some ⟨b, 0, none⟩) (xs.length + ys.length) n) (w.setCells b xs.length (ys.map (Value.int .i64))) := by
  intro ty
  obtain ⟨i0, hi, hz0, hz1, hz2⟩ := info_parts info3'
  have hsrc : Src Tryd.prog i0.size tx v ys.length (ys.map (Value.int .i64)) w := by
    rw [hz1]
    obtain ⟨a, cap, rfl, hc1, hc2, hc⟩ := hv
    cases a with
    | none =>
      have : ys = [] := by
        cases ys with
        | nil => rfl
        | cons y r => obtain ⟨_, _, e, _⟩ := hc 0 y rfl; cases e
      subst this
      exact Src.ofNil w htx cap
    | some ad =>
      refine Src.ofSlice w htx ad ys.length cap (ys.map (Value.int .i64)) (by simp) (fun j u hu => ?_) (ints_oneCell .i64 ys)
      simp only [List.getElem?_map, Option.map_eq_some_iff] at hu
      obtain ⟨y, hy, rfl⟩ := hu
      obtain ⟨b', off, e, _, hcell⟩ := hc j y hy
      cases e
      have e2 : (⟨b', off, none⟩ : Addr).add j = ⟨b', off + j, none⟩ := by
        unfold Addr.add
        by_cases h0 : j = 0
        · subst h0; simp
        · simp [h0]
      rw [e2]
      exact hcell
  have := run_append_room_src (P := Tryd.prog) w t tx ty 3 i0 ht hi b 0 xs.length n v ys.length (ys.map (Value.int .i64)) hsrc hl
    (fun j hj => by rw [hz1]; simp only [Nat.zero_add, Nat.mul_one]; exact (h.2.2.2.1 _ (by simp at hj; omega)).1) (fun j hj => by rw [hz1]; simp only [Nat.zero_add, Nat.mul_one]; exact (h.2.2.2.1 _ (by simp at hj; omega)).2)
  rw [hz1] at this
  simpa using this

set_option maxRecDepth 100000 in
set_option maxHeartbeats 1000000 in
theorem concat70 (w : World) (B ab : Nat) (va vb : Value) (xs ys : List Int) (hB : B ≤ w.heap.size) (c0 : w.cell? ⟨ab, 0, none⟩ = some va) (c1 : w.cell? ⟨ab, 1, none⟩ = some vb) (ha : IntsV B w va xs) (hb : IntsV B w vb ys) (h0 : 0 < xs.length + ys.length) (hn : xs.length + ys.length ≤ 20000) :
    Calls Tryd.prog 70 #[.slice (some ⟨ab, 0, none⟩) 2 2] w fun e w' => ∃ b cap, e = .returned (.slice (some ⟨b, 0, none⟩) (xs.length + ys.length) cap) ∧ IRow w w' b cap (xs ++ ys) := by
  obtain ⟨aa, ac, rfl, _⟩ := ha.form
  obtain ⟨ba, bc, rfl, _⟩ := hb.form
  have HA : Hid (IntsV B w (.slice aa xs.length ac) xs) := ha
  have HB : Hid (IntsV B w (.slice ba ys.length bc) ys) := hb
  clear ha hb
  go_enter Tryd.func70, Tryd.ntmps70
  go_wp2
  go_loop [3, 5, 11] (fun s _ i => (i = .int .i64 0 ∧ s = .int .i64 0) ∨ (i = .int .i64 1 ∧ s = .int .i64 (xs.length : Int)) ∨ (i = .int .i64 2 ∧ s = .int .i64 ((xs.length + ys.length : Nat) : Int))) (fun _ _ i => 2 - (intOf i).toNat)
  case atStart => exact .inl ⟨rfl, rfl⟩
  case round =>
    rcases hrel with ⟨rfl, rfl⟩ | ⟨rfl, rfl⟩ | ⟨rfl, rfl⟩
    · go_wp2
      go_round
      case rel => exact .inr (.inl ⟨by go_num, by go_num⟩)
      case measure => simp [intOf]
    · have hneg : ¬ ((xs.length : Int) + (ys.length : Int) < 0) := by omega
      go_wp2
      go_round
      case rel => exact .inr (.inr ⟨by go_num, by go_num⟩)
      case measure => simp [intOf]
    · go_upto_region 10 with (go_at_call 111; refine (grow113 _ (xs.length + ys.length) h0 hn).mono ?_; rintro e w1 ⟨cap, rfl, hcap, hI⟩)
      have hk1 := hI.1
      have d0 := (hk1.cell (p := ⟨ab, 0, none⟩) (lt_of_cell c0) (fun f => f)).trans c0
      have HI : Hid (IRow w w1 w.heap.size cap []) := hI
      clear hI hk1
      go_wp2_with fail
      go_loopw [6, 8, 27] (fun s _ i wr => (i = .int .i64 0 ∧ s = .slice (some ⟨w.heap.size, 0, none⟩) 0 cap ∧ IRow w wr w.heap.size cap []) ∨ (i = .int .i64 1 ∧ s = .slice (some ⟨w.heap.size, 0, none⟩) xs.length cap ∧ IRow w wr w.heap.size cap xs) ∨ (i = .int .i64 2 ∧ s = .slice (some ⟨w.heap.size, 0, none⟩) (xs.length + ys.length) cap ∧ IRow w wr w.heap.size cap (xs ++ ys))) (fun _ _ i _ => 2 - (intOf i).toNat)
      case atStart => exact .inl ⟨rfl, rfl, HI.out⟩
      case round =>
        rcases hrel with ⟨rfl, rfl, hr⟩ | ⟨rfl, rfl, hr⟩ | ⟨rfl, rfl, hr⟩
        · have e0 := (hr.1.cell (p := ⟨ab, 0, none⟩) (lt_of_cell c0) (fun f => f)).trans c0
          have hA := HA.out.below (hr.1.below hB (fun _ f => f.elim))
          have hx := append_ints_of Tryd.underlying95 Tryd.underlying95 hr (by simp; omega) hA
          have hr2 := hr.fill (ys := xs) (by simp; omega)
          simp only [List.length_nil, Nat.zero_add, List.nil_append] at hx hr2
          have HX : Hid _ := hx
          have HR2 : Hid _ := hr2
          clear hx hr2 hA hr
          go_wp2_with (at_builtin; refine wpList_append_run rfl _ _ 95 95 rfl (.slice (some ⟨w.heap.size, 0, none⟩) 0 cap) (.slice aa xs.length ac) rfl rfl HX.out ?_)
          go_roundw
          case rel => exact .inr (.inl ⟨by go_num, rfl, HR2.out⟩)
          case measure => simp [intOf]
        · have e0 := (hr.1.cell (p := ⟨ab, 1, none⟩) (lt_of_cell c1) (fun f => f)).trans c1
          have hA := HB.out.below (hr.1.below hB (fun _ f => f.elim))
          have hx := append_ints_of Tryd.underlying95 Tryd.underlying95 hr (by omega) hA
          have hr2 := hr.fill (ys := ys) (by omega)
          have HX : Hid _ := hx
          have HR2 : Hid _ := hr2
          clear hx hr2 hA hr
          go_wp2_with (at_builtin; refine wpList_append_run rfl _ _ 95 95 rfl (.slice (some ⟨w.heap.size, 0, none⟩) xs.length cap) (.slice ba ys.length bc) rfl rfl HX.out ?_)
          go_roundw
          case rel => exact .inr (.inr ⟨by go_num, rfl, HR2.out⟩)
          case measure => simp [intOf]
        · have HR : Hid _ := hr
          clear hr
          go_wp2
          go_ret
          exact ⟨w.heap.size, cap, rfl, HR.out⟩
end Go.Proofs.YtdbpdanocpfboaaDoor
