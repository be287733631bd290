import Derived.Test.YtdbpdanocpfboabGreatDoorZRa
/- The document's Trace and Places. -/
namespace Go.Proofs.YtdbpdanocpfboabGreatDoor
open Go.RowKit Go.Shelf

def letterOf (m : MD) (s : Int) : Int := m.letters.getD s.toNat 0
def traceH (m : MD) (hd lp : List Int) : List Int := if pathM m hd lp = true then hd.map (letterOf m) else []
def traceL (m : MD) (hd lp : List Int) : List Int := if pathM m hd lp = true then lp.map (letterOf m) else []
/-- the numbers of a path are those of states -/
theorem path_rng {m : MD} {hd lp : List Int} (h : pathM m hd lp = true) : FitsP m ∧ (hd.length + lp.length ≤ 20000) ∧ ∀ s, s ∈ hd ∨ s ∈ lp → 0 ≤ s ∧ s < (m.names.length : Int) := by
  simp only [pathM, Bool.and_eq_true, decide_eq_true_eq] at h
  obtain ⟨h1, h2, h3, h4⟩ := h
  have hF := goodM_fits h1
  refine ⟨hF, h3, fun s hs => ?_⟩
  have hm : s ∈ hd ++ lp ++ lp.take 1 := by
    rcases hs with h | h
    · simp [h]
    · simp [h]
  have hl : 0 < (hd ++ lp ++ lp.take 1).length := List.length_pos_of_mem hm
  obtain ⟨g1, g2⟩ := (start_at m _ hl).1 h4
  obtain ⟨i, hi, rfl⟩ := List.mem_iff_getElem.1 hm
  cases i with
  | zero => rw [g1]; have := hF.n0; omega
  | succ i => exact stepB_rng hF (g2 i hi)

set_option maxRecDepth 100000 in
set_option maxHeartbeats 1000000 in
theorem places22 (w : World) (B : Nat) (wv : Value) (hd lp : List Int) (hw : WordV B w wv hd lp) : Calls Tryz.prog 22 #[wv] w fun e w' => Kept (fun _ => False) w w' ∧ e = .returned (.int .i64 ((hd.length : Int) + (lp.length : Int))) := by
  obtain ⟨hv1, lv1, rfl, h1, h2⟩ := hw
  obtain ⟨ha, hc, rfl, hl1⟩ := h1.form
  obtain ⟨la, lc, rfl, hl2⟩ := h2.form
  clear h1 h2
  go_enter Tryz.func22, Tryz.ntmps22
  go_wp2
  go_ret
  exact ⟨(Kept.refl _ _).alloc _, rfl⟩

/-- a word that lies in blocks from lo on -/
def WordN (lo : Nat) (w : World) (v : Value) (hd lp : List Int) : Prop := ∃ hv lv, v = .agg #[hv, lv] ∧ LsN lo w hv (hd.map (Value.int .i64)) ∧ LsN lo w lv (lp.map (Value.int .i64))
theorem WordN.wordV {lo : Nat} {w : World} {v : Value} {hd lp : List Int} (h : WordN lo w v hd lp) : WordV w.heap.size w v hd lp := by
  obtain ⟨hv, lv, e, h1, h2⟩ := h
  exact ⟨hv, lv, e, h1.ls.ints, h2.ls.ints⟩
theorem WordN.keep {lo : Nat} {w w' : World} {v : Value} {hd lp : List Int} (h : WordN lo w v hd lp) (hz : w.heap.size ≤ w'.heap.size) (hb : ∀ k, lo ≤ k → k < w.heap.size → w'.heap[k]? = w.heap[k]?) : WordN lo w' v hd lp := by
  obtain ⟨hv, lv, e, h1, h2⟩ := h
  exact ⟨hv, lv, e, h1.keep hz hb, h2.keep hz hb⟩

set_option maxRecDepth 100000 in
set_option maxHeartbeats 8000000 in
theorem trace17 (w : World) (B : Nat) (v wv : Value) (m : MD) (hd lp : List Int) (hm : ModV B w v m) (hw : WordV B w wv hd lp) (hB : B ≤ w.heap.size) (hsz : ∀ x ∈ m.names, x.size ≤ 9223372036854775807) :
    Calls Tryz.prog 17 #[v, wv] w fun e w' => Kept (fun _ => False) w w' ∧ ∃ u, e = .returned u ∧ WordN w.heap.size w' u (traceH m hd lp) (traceL m hd lp) := by
  obtain ⟨nv, lv, tv, rfl, hnn, hll, _⟩ := id hm.ex
  obtain ⟨hv1, lv1, rfl, h1, h2⟩ := id hw
  obtain ⟨ha, hc, rfl, hl1⟩ := h1.form
  obtain ⟨la, lc, rfl, hl2⟩ := h2.form
  obtain ⟨W0, hW0⟩ : ∃ W0, W0 = (((w.alloc (.cells #[nv, lv, tv] 30)).alloc (.cells #[.slice ha hd.length hc, .slice la lp.length lc] 41)).alloc (.cells #[.slice none 0 0, .slice none 0 0] 41)).alloc (.cells #[.slice none 0 0, .slice none 0 0] 41) := ⟨_, rfl⟩
  have k0 : Kept (fun _ => False) w W0 := by rw [hW0]; exact ((((Kept.refl _ _).alloc _).alloc _).alloc _).alloc _
  have b0 : W0.heap[w.heap.size]? = some (.cells #[nv, lv, tv] 30 (0, 0)) := by
    rw [hW0]
    exact (Below.heap_alloc _ _ _ (by simp; omega)).trans ((Below.heap_alloc _ _ _ (by simp; omega)).trans ((Below.heap_alloc _ _ _ (by simp)).trans (alloc_blk _ _)))
  have b1 : W0.heap[w.heap.size + 1]? = some (.cells #[.slice ha hd.length hc, .slice la lp.length lc] 41 (0, 0)) := by
    rw [hW0]
    have := alloc_blk (w.alloc (.cells #[nv, lv, tv] 30)) (.cells #[.slice ha hd.length hc, .slice la lp.length lc] 41)
    exact (Below.heap_alloc _ _ _ (by simp)).trans ((Below.heap_alloc _ _ _ (by simp)).trans (by simpa using this))
  have b2 : W0.heap[w.heap.size + 1 + 1]? = some (.cells #[.slice none 0 0, .slice none 0 0] 41 (0, 0)) := by
    rw [hW0]
    have := alloc_blk ((w.alloc (.cells #[nv, lv, tv] 30)).alloc (.cells #[.slice ha hd.length hc, .slice la lp.length lc] 41)) (.cells #[.slice none 0 0, .slice none 0 0] 41)
    exact (Below.heap_alloc _ _ _ (by simp)).trans (by simpa using this)
  have b3 : W0.heap[w.heap.size + 1 + 1 + 1]? = some (.cells #[.slice none 0 0, .slice none 0 0] 41 (0, 0)) := by
    rw [hW0]
    have := alloc_blk (((w.alloc (.cells #[nv, lv, tv] 30)).alloc (.cells #[.slice ha hd.length hc, .slice la lp.length lc] 41)).alloc (.cells #[.slice none 0 0, .slice none 0 0] 41)) (.cells #[.slice none 0 0, .slice none 0 0] 41)
    simpa using this
  have hz0 : w.heap.size + 1 + 1 + 1 < W0.heap.size := (Array.getElem?_eq_some_iff.1 b3).1
  have HK0 : Hid (Kept (fun _ => False) w W0) := k0
  have hB0 : B ≤ W0.heap.size := Nat.le_trans hB k0.size
  have HSZ : Hid (∀ x ∈ m.names, x.size ≤ 9223372036854775807) := hsz
  have HMW : Hid (ModV B W0 (.agg #[nv, lv, tv]) m ∧ WordV B W0 (.agg #[.slice ha hd.length hc, .slice la lp.length lc]) hd lp) := ⟨hm.kept k0 hB, hw.below (k0.below hB (fun _ f => f.elim))⟩
  have x0 : W0.cell? ⟨w.heap.size, 0, none⟩ = some nv := blk_cell b0 0
  have x1 : W0.cell? ⟨w.heap.size, 1, none⟩ = some lv := blk_cell b0 1
  have x2 : W0.cell? ⟨w.heap.size, 2, none⟩ = some tv := blk_cell b0 2
  have y0 : W0.cell? ⟨w.heap.size + 1, 0, none⟩ = some (.slice ha hd.length hc) := blk_cell b1 0
  have y1 : W0.cell? ⟨w.heap.size + 1, 1, none⟩ = some (.slice la lp.length lc) := blk_cell b1 1
  go_enter Tryz.func17, Tryz.ntmps17
  go_upto_region 2 with fail
  generalize hr4 : w.heap.size + 1 + 1 = r4 at *
  generalize hr5 : r4 + 1 = r5 at *
  rw [← hW0]
  clear hW0
  cases hp : pathM m hd lp with
  | false =>
    have H1 : Hid (traceH m hd lp = [] ∧ traceL m hd lp = []) := by constructor <;> simp [traceH, traceL, hp]
    go_wp2_with (go_at_call 21; go_must (refine (path21 W0 B _ _ m hd lp HMW.out.1 HMW.out.2 hB0 HSZ.out).mono ?_); rintro e w1 ⟨k1, rfl⟩; rw [hp]; have e2 := (k1.block r4 (by omega) (fun f => f)).trans b2; have e3 := (k1.block r5 (by omega) (fun f => f)).trans b3; have c0 : w1.cell? ⟨r5, 0, none⟩ = some (.slice none 0 0) := blk_cell e3 0; have c1 : w1.cell? ⟨r5, 1, none⟩ = some (.slice none 0 0) := blk_cell e3 1; have d0 : w1.cell? ⟨r4, 0, none⟩ = some (.slice none 0 0) := blk_cell e2 0; have d1 : w1.cell? ⟨r4, 1, none⟩ = some (.slice none 0 0) := blk_cell e2 1; have f0 := blk_frozen e2 0; have f1 := blk_frozen e2 1)
    have HKE : Hid (Kept (fun _ => False) w w1) := HK0.out.trans k1 (fun _ _ f => f)
    rw [H1.out.1, H1.out.2]
    refine bodyPost_ret (v := .agg #[.slice none 0 0, .slice none 0 0]) (by simp [results, Tryz.results17, go_sem, d0, d1]) rfl ⟨?_, _, rfl, _, _, rfl, ⟨none, 0, rfl, Nat.zero_le _, by simp, fun i x h => by simp at h⟩, ⟨none, 0, rfl, Nat.zero_le _, by simp, fun i x h => by simp at h⟩⟩
    repeat (first | exact HKE.out | (refine Kept.setCell ?_ (fun hh => absurd hh (by simp only; omega)) _))
  | true =>
    obtain ⟨hF, h20, hrng⟩ := path_rng hp
    have HF : Hid (FitsP m) := hF
    have HRNG : Hid (∀ s, s ∈ hd ∨ s ∈ lp → 0 ≤ s ∧ s < (m.names.length : Int)) := hrng
    have H1 : Hid (traceH m hd lp = hd.map (letterOf m) ∧ traceL m hd lp = lp.map (letterOf m)) := by constructor <;> simp [traceH, traceL, hp]
    obtain ⟨i3, hi3, hy0, hy1, hy2⟩ := info_parts info3
    obtain ⟨lla, llc, rfl, _⟩ := hll.form
    go_upto_region 4 with (go_at_call 21; go_must (refine (path21 W0 B _ _ m hd lp HMW.out.1 HMW.out.2 hB0 HSZ.out).mono ?_); rintro e w1 ⟨k1, rfl⟩; rw [hp])
    have HK1 : Hid (Kept (fun _ => False) w w1) := HK0.out.trans k1 (fun _ _ f => f)
    have z1 := k1.size
    have HM5 : Hid (w1.heap[r5]? = some (.cells #[.slice none 0 0, .slice none 0 0] 41 (0, 0))) := (k1.block r5 (by omega) (fun f => f)).trans b3
    have HM4 : Hid (w1.heap[r4]? = some (.cells #[.slice none 0 0, .slice none 0 0] 41 (0, 0))) := (k1.block r4 (by omega) (fun f => f)).trans b2
    have HI : Hid (∀ W, Kept (fun b => b = r5) w1 W → IntsV B W (.slice ha hd.length hc) hd ∧ IntsV B W (.slice la lp.length lc) lp ∧ IntsV B W (.slice lla m.letters.length llc) m.letters ∧ W.cell? ⟨w.heap.size, 1, none⟩ = some (.slice lla m.letters.length llc) ∧ W.cell? ⟨w.heap.size + 1, 0, none⟩ = some (.slice ha hd.length hc) ∧ W.cell? ⟨w.heap.size + 1, 1, none⟩ = some (.slice la lp.length lc)) := by
      intro W hk
      have hbl : Below B w W := (HK1.out.below hB (fun _ f => f.elim)).trans (hk.below (by omega) (fun k e => by subst e; omega))
      have hcl : ∀ p : Addr, p.block < w1.heap.size → p.block ≠ r5 → W.cell? p = w1.cell? p := fun p h1 h2 => hk.cell h1 h2
      have hc1 : ∀ p : Addr, p.block < W0.heap.size → w1.cell? p = W0.cell? p := fun p h1 => k1.cell h1 (fun f => f)
      exact ⟨h1.below hbl, h2.below hbl, hll.below hbl, ((hcl _ (by simp only; omega) (by simp only; omega)).trans (hc1 _ (by simp only; omega))).trans x1, ((hcl _ (by simp only; omega) (by simp only; omega)).trans (hc1 _ (by simp only; omega))).trans y0, ((hcl _ (by simp only; omega) (by simp only; omega)).trans (hc1 _ (by simp only; omega))).trans y1⟩
    clear x0 x1 x2 y0 y1 k1 b0 b1 b2 b3 h1 h2 hll hnn hm hw HMW hF hrng
    go_wp2
    go_loopw [6] (fun iv wr => ∃ (k : Nat) (xv : Value), k ≤ hd.length ∧ iv = .int .i64 k ∧ Kept (fun b => b = r5) w1 wr ∧ wr.heap[r5]? = some (.cells #[xv, .slice none 0 0] 41 (0, 0)) ∧ wr.ownsRow w1.heap.size 3 1 xv k (((hd.take k).map (letterOf m)).map (Value.int .i64))) (fun iv _ => hd.length - (intOf iv).toNat)
    case atStart => exact ⟨0, .slice none 0 0, Nat.zero_le _, rfl, Kept.refl _ _, HM5.out, World.ownsRow_nil _ _ _ _⟩
    case round =>
      obtain ⟨k, xv, hk, rfl, hkr, hM, hrow⟩ := hrel
      have HM : Hid (wr.heap[r5]? = some (.cells #[xv, .slice none 0 0] 41 (0, 0))) := hM
      have HRow : Hid (wr.ownsRow w1.heap.size 3 1 xv k (((hd.take k).map (letterOf m)).map (Value.int .i64))) := hrow
      have HKR : Hid (Kept (fun b => b = r5) w1 wr) := hkr
      clear hM hrow hkr
      obtain ⟨g1, g2, g3, g4, g5, g6⟩ := HI.out wr (HKR.out)
      have hzr := HKR.out.size
      by_cases hlt : k < hd.length
      · have hki : (k : Int) < (hd.length : Int) := by omega
        obtain ⟨sb, so, rfl, _, cs⟩ := LsV.cell (IntsV.ls g1) (i := k) (x := .int .i64 hd[k]) (by simp [hlt])
        have hrg := HRNG.out hd[k] (.inl (List.getElem_mem hlt))
        obtain ⟨sn, hsn⟩ : ∃ sn : Nat, hd[k] = (sn : Int) := ⟨(hd[k]).toNat, by omega⟩
        have hsl : sn < m.letters.length := by rw [HF.out.l]; omega
        have hsli : (sn : Int) < (m.letters.length : Int) := by omega
        obtain ⟨lb, lo, rfl, _, cl⟩ := LsV.cell (IntsV.ls g3) (i := sn) (x := .int .i64 m.letters[sn]) (by simp [hsl])
        have HLO : Hid (((hd.take (k + 1)).map (letterOf m)).map (Value.int .i64) = ((hd.take k).map (letterOf m)).map (Value.int .i64) ++ [.int .i64 m.letters[sn]]) := by
          rw [Hid, List.take_add_one, List.getElem?_eq_getElem hlt, List.map_append, List.map_append]
          simp [letterOf, hsn, hsl]
        rw [hsn] at cs
        have c0 : wr.cell? ⟨r5, 0, none⟩ = some xv := blk_cell HM.out 0
        have c0a : ∀ o, (wr.alloc o).cell? ⟨r5, 0, none⟩ = some xv := fun o => (((Kept.refl (fun _ => False) _).alloc o).cell (p := ⟨r5, 0, none⟩) (lt_of_cell c0) (fun f => f)).trans c0
        have fz := blk_frozen HM.out 0
        go_upto_region 7 with fail
        go_region_law
          (refine step_append_own rfl (.tmp 21) (.tmp 31) 23 rfl w1.heap.size 3 i3 _ 1 8 Tryz.underlying23 hi3 hy0 hy1 hy2 rfl (by decide) xv k _ (by simp [Act.eval]) (World.ownsRow.alloc HRow.out _) ⟨wr.heap.size, 0, none⟩ 1 1 [.int .i64 m.letters[sn]] (by simp [Act.eval]) rfl (cell_one_new _ _ _) (by intro u hu; simp at hu; rcases hu with rfl; rfl) (by unfold maxLen; omega) (by omega) (by simp; omega) ?_
           intro xv' w6 hown6 hgrow6 hloc6
           obtain ⟨g6', cap6, rfl⟩ := ownsRow_form hown6
           have hg6 : Kept (fun b => inRow xv b) wr w6 := ((Kept.refl _ _).alloc _).drew.grown hgrow6 (fun k _ e => e)
           have hM6 := (hg6.block _ (Array.getElem?_eq_some_iff.1 HM.out).1 (row_blk HRow.out HM.out (by decide))).trans HM.out
           have d0 : w6.cell? ⟨r5, 0, none⟩ = some xv := blk_cell hM6 0
           have d1 := blk_frozen hM6 0)
        all_goals
          go_wp2
          go_roundw
          case rel =>
            have hs7 : Kept (fun b => b = r5) w6 (w6.setCell ⟨r5, 0, none⟩ (.slice (some ⟨g6', 0, none⟩) (k + 1) cap6)) := Kept.setCell (S := fun b => b = r5) (Kept.refl _ _) (fun _ => rfl) _
            refine ⟨k + 1, .slice (some ⟨g6', 0, none⟩) (k + 1) cap6, by omega, by simp, (HKR.out.trans hg6 (fun b hb e => absurd (ownsRow_lt HRow.out e).2 (by omega))).trans hs7 (fun _ _ e => e), heap_setCell_same _ _ _ _ _ _ hM6, ?_⟩
            rw [HLO.out]
            exact own_keptM hown6 hs7 (row_blk hown6 hM6 (by decide))
          case measure => simp [intOf]; omega
      · obtain rfl : k = hd.length := by omega
        have HKB : Hid (Kept (fun b => b = r5) w1 wr) := HKR.out
        have HROWH : Hid (wr.ownsRow w1.heap.size 3 1 xv hd.length ((hd.map (letterOf m)).map (Value.int .i64))) := by have := HRow.out; rw [List.take_length] at this; exact this
        have HM5b : Hid (wr.heap[r5]? = some (.cells #[xv, .slice none 0 0] 41 (0, 0))) := HM.out
        generalize hwb : wr = wb at *
        generalize hxv : xv = hvF at *
        clear hwb hxv HM HRow HKR HM5
        have HM5 : Hid (wb.heap[r5]? = some (.cells #[hvF, .slice none 0 0] 41 (0, 0))) := HM5b.out
        go_wp2
        go_loopw [7] (fun iv wr => ∃ (k : Nat) (xv : Value), k ≤ lp.length ∧ iv = .int .i64 k ∧ Kept (fun b => b = r5) wb wr ∧ wr.heap[r5]? = some (.cells #[hvF, xv] 41 (0, 0)) ∧ wr.ownsRow wb.heap.size 3 1 xv k (((lp.take k).map (letterOf m)).map (Value.int .i64))) (fun iv _ => lp.length - (intOf iv).toNat)
        case atStart => exact ⟨0, .slice none 0 0, Nat.zero_le _, rfl, Kept.refl _ _, HM5.out, World.ownsRow_nil _ _ _ _⟩
        case round =>
          obtain ⟨k, xv, hk, rfl, hkr, hM, hrow⟩ := hrel
          have HM : Hid (wr.heap[r5]? = some (.cells #[hvF, xv] 41 (0, 0))) := hM
          have HRow : Hid (wr.ownsRow wb.heap.size 3 1 xv k (((lp.take k).map (letterOf m)).map (Value.int .i64))) := hrow
          have HKR : Hid (Kept (fun b => b = r5) wb wr) := hkr
          clear hM hrow hkr
          obtain ⟨g1, g2, g3, g4, g5, g6⟩ := HI.out wr (HKB.out.trans HKR.out (fun _ _ e => e))
          have hzr := HKR.out.size
          by_cases hlt : k < lp.length
          · have hki : (k : Int) < (lp.length : Int) := by omega
            obtain ⟨sb, so, rfl, _, cs⟩ := LsV.cell (IntsV.ls g2) (i := k) (x := .int .i64 lp[k]) (by simp [hlt])
            have hrg := HRNG.out lp[k] (.inr (List.getElem_mem hlt))
            obtain ⟨sn, hsn⟩ : ∃ sn : Nat, lp[k] = (sn : Int) := ⟨(lp[k]).toNat, by omega⟩
            have hsl : sn < m.letters.length := by rw [HF.out.l]; omega
            have hsli : (sn : Int) < (m.letters.length : Int) := by omega
            obtain ⟨lb, lo, rfl, _, cl⟩ := LsV.cell (IntsV.ls g3) (i := sn) (x := .int .i64 m.letters[sn]) (by simp [hsl])
            have HLO : Hid (((lp.take (k + 1)).map (letterOf m)).map (Value.int .i64) = ((lp.take k).map (letterOf m)).map (Value.int .i64) ++ [.int .i64 m.letters[sn]]) := by
              rw [Hid, List.take_add_one, List.getElem?_eq_getElem hlt, List.map_append, List.map_append]
              simp [letterOf, hsn, hsl]
            rw [hsn] at cs
            have c0 : wr.cell? ⟨r5, 1, none⟩ = some xv := blk_cell HM.out 1
            have c0a : ∀ o, (wr.alloc o).cell? ⟨r5, 1, none⟩ = some xv := fun o => (((Kept.refl (fun _ => False) _).alloc o).cell (p := ⟨r5, 1, none⟩) (lt_of_cell c0) (fun f => f)).trans c0
            have fz := blk_frozen HM.out 1
            go_upto_region 11 with fail
            go_region_law
              (refine step_append_own rfl (.tmp 42) (.tmp 52) 23 rfl wb.heap.size 3 i3 _ 1 8 Tryz.underlying23 hi3 hy0 hy1 hy2 rfl (by decide) xv k _ (by simp [Act.eval]) (World.ownsRow.alloc HRow.out _) ⟨wr.heap.size, 0, none⟩ 1 1 [.int .i64 m.letters[sn]] (by simp [Act.eval]) rfl (cell_one_new _ _ _) (by intro u hu; simp at hu; rcases hu with rfl; rfl) (by unfold maxLen; omega) (by omega) (by simp; omega) ?_
               intro xv' w6 hown6 hgrow6 hloc6
               obtain ⟨g6', cap6, rfl⟩ := ownsRow_form hown6
               have hg6 : Kept (fun b => inRow xv b) wr w6 := ((Kept.refl _ _).alloc _).drew.grown hgrow6 (fun k _ e => e)
               have hM6 := (hg6.block _ (Array.getElem?_eq_some_iff.1 HM.out).1 (row_blk HRow.out HM.out (by decide))).trans HM.out
               have d0 : w6.cell? ⟨r5, 1, none⟩ = some xv := blk_cell hM6 1
               have d1 := blk_frozen hM6 1)
            all_goals
              go_wp2
              go_roundw
              case rel =>
                have hs7 : Kept (fun b => b = r5) w6 (w6.setCell ⟨r5, 1, none⟩ (.slice (some ⟨g6', 0, none⟩) (k + 1) cap6)) := Kept.setCell (S := fun b => b = r5) (Kept.refl _ _) (fun _ => rfl) _
                refine ⟨k + 1, .slice (some ⟨g6', 0, none⟩) (k + 1) cap6, by omega, by simp, (HKR.out.trans hg6 (fun b hb e => absurd (ownsRow_lt HRow.out e).2 (by omega))).trans hs7 (fun _ _ e => e), heap_setCell_same _ _ _ _ _ _ hM6, ?_⟩
                rw [HLO.out]
                exact own_keptM hown6 hs7 (row_blk hown6 hM6 (by decide))
              case measure => simp [intOf]; omega
          · obtain rfl : k = lp.length := by omega
            have HRL : Hid (wr.ownsRow wb.heap.size 3 1 xv lp.length ((lp.map (letterOf m)).map (Value.int .i64))) := by have := HRow.out; rw [List.take_length] at this; exact this
            have HRH : Hid (wr.ownsRow w1.heap.size 3 1 hvF hd.length ((hd.map (letterOf m)).map (Value.int .i64))) := own_keptM HROWH.out HKR.out (row_blk HROWH.out HM5.out (by decide))
            have hkW : Kept (fun b => b = r5) w1 wr := HKB.out.trans HKR.out (fun _ _ e => e)
            have zb := HKB.out.size
            have e4 : wr.heap[r4]? = some (.cells #[.slice none 0 0, .slice none 0 0] 41 (0, 0)) := (hkW.block r4 (by omega) (by omega)).trans HM4.out
            have c0 : wr.cell? ⟨r5, 0, none⟩ = some hvF := blk_cell HM.out 0
            have c1 : wr.cell? ⟨r5, 1, none⟩ = some xv := blk_cell HM.out 1
            have d0 : wr.cell? ⟨r4, 0, none⟩ = some (.slice none 0 0) := blk_cell e4 0
            have d1 : wr.cell? ⟨r4, 1, none⟩ = some (.slice none 0 0) := blk_cell e4 1
            have f0 := blk_frozen e4 0
            have f1 := blk_frozen e4 1
            obtain ⟨fa, fc, hfv, _⟩ := (own_ls HRH.out (by simp; omega)).form
            obtain ⟨ga, gc, hgv, _⟩ := (own_ls HRL.out (by simp; omega)).form
            simp only [List.length_map] at hfv hgv
            subst hfv hgv
            have HKE : Hid (Kept (fun _ => False) w wr) := HK1.out.trans hkW (fun k hk e => by omega)
            clear hkW e4
            go_wp2
            obtain ⟨W7, hW7⟩ : ∃ W7, W7 = (wr.setCell ⟨r4, 0, none⟩ (.slice fa hd.length fc)).setCell ⟨r4, 1, none⟩ (.slice ga lp.length gc) := ⟨_, rfl⟩
            have kR : Kept (fun k => k = r4) wr W7 := by
              rw [hW7]
              exact (Kept.setCell (S := fun k => k = r4) (Kept.refl _ _) (fun _ => rfl) _).setCell (fun _ => rfl) _
            have q1 := own_keptM HRH.out kR (fun e => absurd (ownsRow_lt HRH.out e).2 (by omega))
            have q2 := own_keptM HRL.out kR (fun e => absurd (ownsRow_lt HRL.out e).2 (by omega))
            rw [H1.out.1, H1.out.2]
            refine bodyPost_ret (v := .agg #[.slice fa hd.length fc, .slice ga lp.length gc]) (by simp [results, Tryz.results17, go_sem, d0, d1]) rfl ⟨?_, _, rfl, _, _, rfl, ?_, ?_⟩
            · repeat (first | exact HKE.out | (refine Kept.setCell ?_ (fun hh => absurd hh (by simp only; omega)) _))
            · rw [← hW7]
              exact own_lsn q1 (by simp; omega) HK1.out.size
            · rw [← hW7]
              exact own_lsn q2 (by simp; omega) (Nat.le_trans HK1.out.size zb)
end Go.Proofs.YtdbpdanocpfboabGreatDoor
