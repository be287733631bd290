/- Walks of the document's own answers of words: Least, Same. -/
import Derived.Test.YtdbpdanocpfboaaDoorVRef2
import Derived.Deep.CutRange
import Derived.Test.YtdbpdanocpfboaaDoorVQk
namespace Go.Proofs.YtdbpdanocpfboaaDoor
open Go.RowKit

theorem at66i (w : World) (B : Nat) (wv : Value) (hd lp : List Int) (n : Nat) (m x : Int) (hm : m = (n : Int)) (hx : wAt hd lp n = x) (hW : WordV B w wv hd lp) (hB : B ≤ w.heap.size) (hl : 0 < lp.length) (hn : n ≤ 9223372036854775807) :
    Calls Tryd.prog 66 #[wv, .int .i64 m] w fun e w' => Kept (fun _ => False) w w' ∧ e = .returned (.int .i64 x) := by
  subst hm hx
  exact at66 w B wv hd lp n hW hB hl hn

theorem wrapI (x : Int) (h : -9223372036854775808 ≤ x ∧ x ≤ 9223372036854775807) : IntKind.i64.wrap x = x := by
  rw [IntKind.wrap_i64]
  omega

theorem isPer_self (l : List Int) : IsPer l l.length := fun i h1 h2 => absurd h2 (by omega)

set_option maxRecDepth 100000 in
set_option maxHeartbeats 1500000 in
theorem least38 (w : World) (B : Nat) (wv : Value) (hd lp : List Int) (hW : WordV B w wv hd lp) (hB : B ≤ w.heap.size) :
    Calls Tryd.prog 38 #[wv] w fun e w' => Kept (fun _ => False) w w' ∧ ((goodW hd lp = false ∧ e = .returned (.agg #[.slice none 0 0, .slice none 0 0])) ∨ (goodW hd lp = true ∧ ∃ h P hv lv, e = .returned (.agg #[hv, lv]) ∧ Short hd lp h P ∧ IntsV w'.heap.size w' hv (cutW (wAt hd lp) 0 h) ∧ IntsV w'.heap.size w' lv (cutW (wAt hd lp) h P) ∧ (∀ b, some b = hv.ownBlock → w.heap.size ≤ b) ∧ ∀ b, some b = lv.ownBlock → w.heap.size ≤ b)) := by
  obtain ⟨hv1, lv1, rfl, h1, h2⟩ := id hW
  obtain ⟨ha, hc, rfl, hl1⟩ := h1.form
  obtain ⟨la, lc, rfl, hl2⟩ := h2.form
  obtain ⟨w1, hw1⟩ : ∃ w1, w1 = ((w.alloc (.cells #[.slice ha hd.length hc, .slice la lp.length lc] 48)).alloc (.cells #[.slice none 0 0, .slice none 0 0] 48)) := ⟨_, rfl⟩
  have hk0 : Kept (fun _ => False) w w1 := by rw [hw1]; exact ((Kept.refl _ _).alloc _).alloc _
  have hc0 : w1.cell? ⟨w.heap.size, 0, none⟩ = some (.slice ha hd.length hc) := by rw [hw1]; simp [go_sem]
  have hc1 : w1.cell? ⟨w.heap.size, 1, none⟩ = some (.slice la lp.length lc) := by rw [hw1]; simp [go_sem]
  have hbx : Box2 w1 (w.heap.size + 1) (.slice none 0 0) (.slice none 0 0) := by
    rw [hw1]
    exact ⟨by simp, by rw [World.cell?_alloc_at (hn := by simp)]; rfl, by rw [World.cell?_alloc_at (hn := by simp)]; rfl, by rw [World.frozen?_alloc_at (hn := by simp)], by rw [World.frozen?_alloc_at (hn := by simp)]⟩
  go_enter Tryd.func38, Tryd.ntmps38
  go_upto_region 1 with fail
  rw [← hw1]
  clear hw1
  have hB1 : B ≤ w1.heap.size := Nat.le_trans hB hk0.size
  have HW : Hid (WordV B w (.agg #[.slice ha hd.length hc, .slice la lp.length lc]) hd lp) := hW
  have HW1 : Hid (WordV B w1 (.agg #[.slice ha hd.length hc, .slice la lp.length lc]) hd lp) := hW.kept hk0 hB
  clear hW h1 h2
  have hlt0 := lt_of_cell hc0
  simp only at hlt0
  cases hg : goodW hd lp with
  | false =>
    have HG : Hid _ := hg
    clear hg
    go_upto_region 2 with (go_at_call 30; refine (good30 _ B _ hd lp HW1.out hB1).mono ?_; rintro e w2 ⟨hk1, rfl⟩; rw [HG.out])
    obtain ⟨_, r0, r1, f0, f1⟩ := hbx.kept hk1
    go_wp2
    refine bodyPost_ret (v := .agg #[.slice none 0 0, .slice none 0 0]) (by simp [results, Tryd.results38, go_sem, r0, r1]) rfl ⟨?_, .inl ⟨HG.out, rfl⟩⟩
    exact (((hk0.trans hk1 (fun _ _ f => f)).setCell (fun hh => absurd hh (by simp)) _).setCell (fun hh => absurd hh (by simp)) _)
  | true =>
    have HG : Hid _ := hg
    have hlen := goodW_len hg
    clear hg
    go_upto_region 3 with (go_at_call 30; refine (good30 _ B _ hd lp HW1.out hB1).mono ?_; rintro e w2 ⟨hk1, rfl⟩; rw [HG.out])
    have hk2 := hk0.trans hk1 (fun _ _ f => f)
    have e0 := (hk1.cell (p := ⟨w.heap.size, 0, none⟩) hlt0 (fun f => f)).trans hc0
    have e1 := (hk1.cell (p := ⟨w.heap.size, 1, none⟩) hlt0 (fun f => f)).trans hc1
    have hbx2 := hbx.kept hk1
    have hlt2 : w.heap.size < w2.heap.size := Nat.lt_of_lt_of_le hlt0 hk1.size
    have HW2 : Hid (WordV B w2 (.agg #[.slice ha hd.length hc, .slice la lp.length lc]) hd lp) := HW.out.kept hk2 hB
    have hB2 : B ≤ w2.heap.size := Nat.le_trans hB hk2.size
    clear hc0 hc1 hbx hk1 HW1 hB1 hlt0 hk0 HW
    go_wp2
    go_loopw [3] (fun v3 wr => ∃ q : Nat, 1 ≤ q ∧ q ≤ lp.length ∧ v3 = .int .i64 (q : Int) ∧ Kept (fun _ => False) w2 wr ∧ ∀ p, 1 ≤ p → p < q → ¬ (p ∣ lp.length ∧ IsPer lp p)) (fun v3 _ => lp.length - (intOf v3).toNat)
    case atStart => exact ⟨1, Nat.le_refl _, by omega, rfl, Kept.refl _ _, fun p h1 h2 => absurd h1 (by omega)⟩
    case round =>
      obtain ⟨q, hq1, hq2, rfl, hkr, hno⟩ := hrel
      have HNO : Hid (∀ p, 1 ≤ p → p < q → ¬ (p ∣ lp.length ∧ IsPer lp p)) := hno
      clear hno
      have d0 := (hkr.cell (p := ⟨w.heap.size, 0, none⟩) hlt2 (fun f => f)).trans e0
      have d1 := (hkr.cell (p := ⟨w.heap.size, 1, none⟩) hlt2 (fun f => f)).trans e1
      have hWr := HW2.out.kept hkr hB2
      have hBr := Nat.le_trans hB2 hkr.size
      obtain ⟨_, _, e0', g1, g2⟩ := hWr
      simp only [Value.agg.injEq, Array.mk.injEq, List.cons.injEq, and_true] at e0'
      obtain ⟨rfl, rfl⟩ := e0'
      cases hag : againB lp q with
      | false =>
        have HA : Hid _ := hag
        clear hag
        have hne : q ≠ lp.length := fun e => by
          have := (againB_iff lp q).2 ⟨by rw [e]; exact Nat.dvd_refl _, by rw [e]; exact isPer_self lp⟩
          rw [HA.out] at this
          cases this
        have hno2 : ¬ (q ∣ lp.length ∧ IsPer lp q) := fun h => by
          have := (againB_iff lp q).2 h
          rw [HA.out] at this
          cases this
        have HNO2 : Hid (¬ (q ∣ lp.length ∧ IsPer lp q)) := hno2
        clear hno2
        go_wp2_with (go_at_call 71; refine (again71 _ B _ lp q g2 hBr hq1 (by omega)).mono ?_; rintro e w3 ⟨hk3, rfl⟩; rw [HA.out])
        go_roundw
        case rel => exact ⟨q + 1, by omega, by omega, by go_num, hkr.trans hk3 (fun _ _ f => f), fun p h1 h2 => by
          rcases Nat.lt_succ_iff_lt_or_eq.1 h2 with h | rfl
          · exact HNO.out p h1 h
          · exact HNO2.out⟩
        case measure => simp [intOf]; omega
      | true =>
        have HA : Hid _ := hag
        have hPer := (againB_iff lp q).1 hag
        have HL : Hid (LPer lp q) := ⟨hq1, hPer.1, hPer.2, fun p h1 h2 h3 => by
          by_cases h : q ≤ p
          · exact h
          · exact absurd ⟨h2, h3⟩ (HNO.out p h1 (by omega))⟩
        clear hag hPer HNO
        go_upto_region 6 with (go_at_call 71; refine (again71 _ B _ lp q g2 hBr hq1 (by omega)).mono ?_; rintro e w3 ⟨hk3, rfl⟩; rw [HA.out])
        have hk4 := hkr.trans hk3 (fun _ _ f => f)
        have x0 := (hk4.cell (p := ⟨w.heap.size, 0, none⟩) hlt2 (fun f => f)).trans e0
        have x1 := (hk4.cell (p := ⟨w.heap.size, 1, none⟩) hlt2 (fun f => f)).trans e1
        have HW3 : Hid (WordV B w3 (.agg #[.slice ha hd.length hc, .slice la lp.length lc]) hd lp) := HW2.out.kept hk4 hB2
        have hB3 := Nat.le_trans hB2 hk4.size
        have hbx3 := hbx2.kept hk4
        have hk5 := hk2.trans hk4 (fun _ _ f => f)
        have hlt3 : w.heap.size < w3.heap.size := Nat.lt_of_lt_of_le hlt2 hk4.size
        clear d0 d1 e0 e1 hkr hk3 g1 g2 hBr hk4 hbx2 hk2 HW2 hB2 hlt2
        go_wp2
        go_loopw [4] (fun v4 wr => ∃ h : Nat, h ≤ hd.length ∧ v4 = .int .i64 (h : Int) ∧ Kept (fun _ => False) w3 wr ∧ ∀ i, h ≤ i → i < hd.length → wAt hd lp (i + q) = wAt hd lp i) (fun v4 _ => (intOf v4).toNat)
        case atStart => exact ⟨hd.length, Nat.le_refl _, rfl, Kept.refl _ _, fun i h1 h2 => absurd h1 (by omega)⟩
        case round =>
          obtain ⟨h, hh, rfl, hkr, hsame⟩ := hrel
          have HS : Hid (∀ i, h ≤ i → i < hd.length → wAt hd lp (i + q) = wAt hd lp i) := hsame
          clear hsame
          have d0 := (hkr.cell (p := ⟨w.heap.size, 0, none⟩) hlt3 (fun f => f)).trans x0
          have d1 := (hkr.cell (p := ⟨w.heap.size, 1, none⟩) hlt3 (fun f => f)).trans x1
          have HWr : Hid (WordV B _ _ hd lp) := HW3.out.kept hkr hB3
          have hBr := Nat.le_trans hB3 hkr.size
          have hbr := hbx3.kept hkr
          go_upto_region 7 with fail
          go_cut [33] from 19 to 35 (fun v33 wc => Kept (fun _ => False) wr wc ∧ ((v33 = .bool true ∧ 0 < h ∧ wAt hd lp (h - 1) = wAt hd lp (h - 1 + q)) ∨ (v33 = .bool false ∧ (h = 0 ∨ wAt hd lp (h - 1) ≠ wAt hd lp (h - 1 + q)))))
          case first =>
            by_cases h0 : h = 0
            · subst h0
              go_region
              go_wp2_with fail
              go_meet
              case rel => exact ⟨(Kept.refl _ _).drew, .inr ⟨rfl, .inl trivial⟩⟩
            · obtain ⟨k, rfl⟩ : ∃ k, h = k + 1 := ⟨h - 1, by omega⟩
              have e1 : (((k + 1 : Nat) : Int) - 1) = (k : Int) := by omega
              have hpos : (0 : Int) < ((k + 1 : Nat) : Int) := by omega
              have hposn : (0 : Int) < (k : Int) + 1 := by omega
              obtain ⟨x, hx⟩ : ∃ x, wAt hd lp k = x := ⟨_, rfl⟩
              obtain ⟨y, hy⟩ : ∃ y, wAt hd lp (k + q) = y := ⟨_, rfl⟩
              have HX : Hid (wAt hd lp k = x) := hx
              have HY : Hid (wAt hd lp (k + q) = y) := hy
              clear hx hy
              have U0 : ∀ U : KW wr, U.1.cell? ⟨w.heap.size, 0, none⟩ = some (.slice ha hd.length hc) := fun U => U.cell d0
              have U1 : ∀ U : KW wr, U.1.cell? ⟨w.heap.size, 1, none⟩ = some (.slice la lp.length lc) := fun U => U.cell d1
              have hw1 : IntKind.i64.wrap (k : Int) = (k : Int) := wrapI _ (by omega)
              have hw2 : IntKind.i64.wrap ((k : Int) + (q : Int)) = (k : Int) + (q : Int) := wrapI _ (by omega)
              by_cases hxy : x = y
              · have hb : (x == y) = true := by simpa using hxy
                refine wp_region_quiet_kept (by kernel_rfl) (by kernel_rfl) ?_
                repeat (refine wpQuiet_step (fun K hK => ?_); go_simp; first | (refine hK _ ?_; clear hK K) | (apply Exists.intro; refine ⟨fun U => ?_, hK _ ?_⟩; (first | (go_at_call_of 66 (Value.int IntKind.i64 (k : Int)); refine Calls.quiet_kept (at66i _ B _ hd lp k _ x ?_ HX.out (HWr.out.kept U.2 hBr) (Nat.le_trans hBr U.2.size) hlen.2 ?_); omega; omega) | (go_at_call 66; refine Calls.quiet_kept (at66i _ B _ hd lp (k + q) _ y ?_ HY.out (HWr.out.kept U.2 hBr) (Nat.le_trans hBr U.2.size) hlen.2 ?_); omega; omega)); clear hK K))
                refine wpQuiet_nil ?_
                intro _ hw'
                obtain ⟨⟨U, hU⟩, hw''⟩ := hw'
                subst hw''
                go_wp2_with fail
                go_meet
                case rel => exact ⟨hU, .inl ⟨rfl, by omega, by rw [Nat.add_sub_cancel, HX.out, HY.out, hxy]⟩⟩
              · have hb : (x == y) = false := by simpa using hxy
                refine wp_region_quiet_kept (by kernel_rfl) (by kernel_rfl) ?_
                repeat (refine wpQuiet_step (fun K hK => ?_); go_simp; first | (refine hK _ ?_; clear hK K) | (apply Exists.intro; refine ⟨fun U => ?_, hK _ ?_⟩; (first | (go_at_call_of 66 (Value.int IntKind.i64 (k : Int)); refine Calls.quiet_kept (at66i _ B _ hd lp k _ x ?_ HX.out (HWr.out.kept U.2 hBr) (Nat.le_trans hBr U.2.size) hlen.2 ?_); omega; omega) | (go_at_call 66; refine Calls.quiet_kept (at66i _ B _ hd lp (k + q) _ y ?_ HY.out (HWr.out.kept U.2 hBr) (Nat.le_trans hBr U.2.size) hlen.2 ?_); omega; omega)); clear hK K))
                refine wpQuiet_nil ?_
                intro _ hw'
                obtain ⟨⟨U, hU⟩, hw''⟩ := hw'
                subst hw''
                go_wp2_with fail
                go_meet
                case rel => exact ⟨hU, .inr ⟨rfl, .inr (by rw [Nat.add_sub_cancel, HX.out, HY.out]; exact hxy)⟩⟩
          case rest =>
            obtain ⟨hkc, hcut⟩ := hcut
            rcases hcut with ⟨rfl, hpos, heq⟩ | ⟨rfl, hend⟩
            · have HE : Hid (wAt hd lp (h - 1) = wAt hd lp (h - 1 + q)) := heq
              clear heq
              obtain ⟨k, rfl⟩ : ∃ k, h = k + 1 := ⟨h - 1, by omega⟩
              go_wp2
              go_roundw
              case rel => exact ⟨k, by omega, by go_num, hkr.trans hkc (fun _ _ f => f), fun i h1 h2 => by
                by_cases hi : k + 1 ≤ i
                · exact HS.out i hi h2
                · have e : i = k := by omega
                  subst e
                  have := HE.out
                  rw [Nat.add_sub_cancel] at this
                  exact this.symm⟩
              case measure => simp [intOf]
            · have HSh : Hid (Short hd lp h q) := ⟨HL.out, hh, HS.out, hend⟩
              have hkw := (hk5.trans hkr (fun _ _ f => f)).trans hkc (fun _ _ f => f)
              have y0 := (hkc.cell (p := ⟨w.heap.size, 0, none⟩) (lt_of_cell d0) (fun f => f)).trans d0
              have y1 := (hkc.cell (p := ⟨w.heap.size, 1, none⟩) (lt_of_cell d1) (fun f => f)).trans d1
              have HWc : Hid (WordV B wc _ hd lp) := HWr.out.kept hkc hBr
              have hBc := Nat.le_trans hBr hkc.size
              have hbc := hbr.kept hkc
              clear hend HS d0 d1 HWr hBr hbr hkr hkc x0 x1 HW3 hB3 hbx3 hk5 hlt3 HA HL
              go_wp2
              have hhl : h ≤ 20000 := by omega
              have hql : q ≤ 20000 := by omega
              obtain ⟨hlb, r0, r1, f0, f1⟩ := hbc
              have HBX : Hid (Box2 wc (w.heap.size + 1) (.slice none 0 0) (.slice none 0 0)) := ⟨hlb, r0, r1, f0, f1⟩
              have HKW : Hid (Kept (fun _ => False) w wc) := hkw
              clear hkw
              go_region_with (first
                | (go_at_call_of 72 (Value.int IntKind.i64 (q : Int)); refine (cut72 _ B _ hd lp h q ?_ ?_ hlen.2 ?_).mono ?_; (exact HWc.out.kept (by first | exact (Kept.refl _ _).drew | exact kA) hBc); (first | exact hBc | exact Nat.le_trans hBc kA.size); omega; rintro e wB ⟨hkB, vB, rfl, hIB, hNB⟩; obtain ⟨aB, cB, rfl, _⟩ := hIB.form; have kB : Kept (fun _ => False) wc wB := (by first | exact Kept.trans (Kept.drew (Kept.refl _ _)) hkB (fun _ _ f => f) | exact Kept.trans kA hkB (fun _ _ f => f)); have yB0 := (kB.cell (lt_of_cell y0) (fun f => f)).trans y0; have yB1 := (kB.cell (lt_of_cell y1) (fun f => f)).trans y1; obtain ⟨_, rB0, rB1, fB0, fB1⟩ := HBX.out.kept kB)
                | (go_at_call 72; refine (cut72 _ B _ hd lp 0 h ?_ ?_ hlen.2 ?_).mono ?_; (exact HWc.out.kept (by first | exact (Kept.refl _ _).drew | exact kB) hBc); (first | exact hBc | exact Nat.le_trans hBc kB.size); omega; rintro e wA ⟨hkA, vA, rfl, hIA, hNA⟩; obtain ⟨aA, cA, rfl, _⟩ := hIA.form; have kA : Kept (fun _ => False) wc wA := (by first | exact Kept.trans (Kept.drew (Kept.refl _ _)) hkA (fun _ _ f => f) | exact Kept.trans kB hkA (fun _ _ f => f)); have yA0 := (kA.cell (lt_of_cell y0) (fun f => f)).trans y0; have yA1 := (kA.cell (lt_of_cell y1) (fun f => f)).trans y1; obtain ⟨_, rA0, rA1, fA0, fA1⟩ := HBX.out.kept kA))
              all_goals
                go_wp2
                refine bodyPost_ret (v := .agg #[.slice aA (cutW (wAt hd lp) 0 h).length cA, .slice aB (cutW (wAt hd lp) h q).length cB]) (by simp [results, Tryd.results38, go_sem, rB0, rB1]) rfl ⟨?_, .inr ⟨HG.out, h, q, _, _, rfl, HSh.out, ?_, ?_, fun b hb => ?_, fun b hb => ?_⟩⟩
                · exact ((Kept.trans HKW.out kB (fun _ _ f => f)).setCell (fun hh => absurd hh (by simp)) _).setCell (fun hh => absurd hh (by simp)) _
                · refine (((hIA.kept hkB (Nat.le_refl _)).set (fun b hb => ?_) _).set (fun b hb => ?_) _).mono ?_
                  · have := hNA b hb
                    simp only [World.drew] at this ⊢
                    omega
                  · have := hNA b hb
                    simp only [World.drew] at this ⊢
                    omega
                  · simp [World.setCell]
                    exact hkB.size
                · refine ((hIB.set (fun b hb => ?_) _).set (fun b hb => ?_) _).mono ?_
                  · have := hNB b hb
                    have := kA.size
                    simp only
                    omega
                  · have := hNB b hb
                    have := kA.size
                    simp only
                    omega
                  · simp [World.setCell]
                · have := hNA b hb
                  have := HKW.out.size
                  simp only [World.drew] at *
                  omega
                · have := hNB b hb
                  have := HKW.out.size
                  have := kA.size
                  omega
end Go.Proofs.YtdbpdanocpfboaaDoor
