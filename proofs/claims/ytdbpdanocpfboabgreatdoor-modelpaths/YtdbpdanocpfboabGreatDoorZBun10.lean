import Derived.Test.YtdbpdanocpfboabGreatDoorZBun05
import Derived.Test.YtdbpdanocpfboabGreatDoorZBun09
/- The program's follows: do a word's states follow each other? -/
namespace Go.Proofs.YtdbpdanocpfboabGreatDoor
open Go.RowKit

theorem make23 (n : Nat) (hn : n ≤ 20000) (u : World) : (Instr.makeSlice 23 (.int .i64 (n : Int)) (.int .i64 (n : Int))).run Tryz.prog u = .ok (.slice (some ⟨u.heap.size, 0, none⟩) n n) (u.alloc (.cells (madeCells #[.int .i64 0] n) 3)) := by
  obtain ⟨i0, hi, hz0, hz1, hz2⟩ := info_parts info3
  have hh := run_make (P := Tryz.prog) u 23 3 i0 (.int .i64 0) Tryz.underlying23 hi hz0 .i64 .i64 (n : Int) (n : Int) (by omega) (Int.le_refl _) (by rw [hz2]; omega) (by omega)
  simpa [hz1, Value.cells] using hh

theorem div_min {z : Nat} (hz : z < 4096) (t : Nat) : z / 2 ^ min t 64 = z / 2 ^ t := by
  by_cases h : t ≤ 64
  · rw [Nat.min_eq_left h]
  · have h1 : 2 ^ 12 ≤ 2 ^ t := Nat.pow_le_pow_right (by decide) (by omega)
    rw [Nat.min_eq_right (by omega), Nat.div_eq_of_lt (by omega), Nat.div_eq_of_lt (by omega)]
/-- the three lists that follows goes over -/
def threeL (hd lp : List Int) : Nat → List Int
  | 0 => hd
  | 1 => lp
  | _ => lp.take 1
theorem wrap_pow {t : Nat} (h : t < 12) : wrap64 ((2 : Int) ^ t) = ((2 ^ t : Nat) : Int) := by
  have h1 : 2 ^ t < 2 ^ 12 := Nat.pow_lt_pow_right (by decide) h
  have e : ((2 : Int) ^ t) = ((2 ^ t : Nat) : Int) := by simp
  rw [e]
  generalize (2 ^ t : Nat) = p at h1 ⊢
  have h2 : p < 4096 := h1
  unfold wrap64
  omega

set_option maxRecDepth 100000 in
set_option maxHeartbeats 4000000 in
theorem follows40 (w : World) (B : Nat) (v wv : Value) (m : MD) (hd lp : List Int) (hm : ModV B w v m) (hw : WordV B w wv hd lp) (hB : B ≤ w.heap.size) (hf : FitsP m) (hg : goodW hd lp = true) :
    Calls Tryz.prog 40 #[v, wv] w fun e w' => Kept (fun _ => False) w w' ∧ e = .returned (.bool (startB m (hd ++ lp ++ lp.take 1))) := by
  obtain ⟨nb, no, nc, lb, lo, lc, tb, to_, tc, rb, ro, rc, rfl, hr⟩ := MRd.mk' hm hB hf.n0 (by rw [hf.l]; exact hf.n0) (by rw [hf.t]; exact hf.n0)
  obtain ⟨hv1, lv1, rfl, h1, h2⟩ := id hw
  obtain ⟨ha, hc, rfl, hl1⟩ := h1.form
  obtain ⟨la, lc2, rfl, hl2⟩ := h2.form
  have hcap : lp.length ≤ lc2 := by
    obtain ⟨a, cap, e, hc, _⟩ := id h2
    cases e
    exact hc
  obtain ⟨W0, hW0⟩ : ∃ W0, (w.alloc (.cells #[.slice (some ⟨nb, no, none⟩) m.names.length nc, .slice (some ⟨lb, lo, none⟩) m.letters.length lc, .slice (some ⟨tb, to_, none⟩) m.tos.length tc] 26)).alloc (.cells #[.slice ha hd.length hc, .slice la lp.length lc2] 43) = W0 := ⟨_, rfl⟩
  have k0 : Kept (fun _ => False) w W0 := by rw [← hW0]; exact ((Kept.refl _ _).alloc _).alloc _
  have b0 : W0.heap[w.heap.size]? = some (.cells #[.slice (some ⟨nb, no, none⟩) m.names.length nc, .slice (some ⟨lb, lo, none⟩) m.letters.length lc, .slice (some ⟨tb, to_, none⟩) m.tos.length tc] 26 (0, 0)) := by rw [← hW0]; exact (Below.heap_alloc _ _ _ (by simp)).trans (alloc_blk _ _)
  have b1 : W0.heap[w.heap.size + 1]? = some (.cells #[.slice ha hd.length hc, .slice la lp.length lc2] 43 (0, 0)) := by rw [← hW0]; have := alloc_blk (w.alloc (.cells #[.slice (some ⟨nb, no, none⟩) m.names.length nc, .slice (some ⟨lb, lo, none⟩) m.letters.length lc, .slice (some ⟨tb, to_, none⟩) m.tos.length tc] 26)) (.cells #[.slice ha hd.length hc, .slice la lp.length lc2] 43); rwa [World.size_alloc] at this
  have HX : Hid (∀ W, Kept (fun _ => False) W0 W → W.cell? ⟨w.heap.size, 2, none⟩ = some (.slice (some ⟨tb, to_, none⟩) m.tos.length tc) ∧ W.cell? ⟨w.heap.size + 1, 0, none⟩ = some (.slice ha hd.length hc) ∧ W.cell? ⟨w.heap.size + 1, 1, none⟩ = some (.slice la lp.length lc2) ∧ IntsV B W (.slice ha hd.length hc) hd ∧ IntsV B W (.slice la lp.length lc2) lp) := fun W hk =>
    ⟨(hk.cell (p := ⟨w.heap.size, 2, none⟩) (lt_of_cell (blk_cell b0 2)) (fun f => f)).trans (blk_cell b0 2), (hk.cell (p := ⟨w.heap.size + 1, 0, none⟩) (lt_of_cell (blk_cell b1 0)) (fun f => f)).trans (blk_cell b1 0), (hk.cell (p := ⟨w.heap.size + 1, 1, none⟩) (lt_of_cell (blk_cell b1 1)) (fun f => f)).trans (blk_cell b1 1), h1.below ((k0.trans hk (fun _ _ f => f)).below hB (fun _ f => f.elim)), h2.below ((k0.trans hk (fun _ _ f => f)).below hB (fun _ f => f.elim))⟩
  have HR : Hid (MRd W0 nb no nc lb lo lc tb to_ tc rb ro rc m) := hr.kept k0
  have HK0 : Hid (Kept (fun _ => False) w W0) := k0
  have HF : Hid (FitsP m) := hf
  have hn12 := hf.n12
  have hn0 := hf.n0
  have htl0 := hf.t
  have htl12 : m.tos.length ≤ 12 := by omega
  have hmk := make23 m.tos.length (by omega)
  have HG : Hid (goodW hd lp = true) := hg
  obtain ⟨x2, y0, y1, _⟩ := HX.out W0 (Kept.refl _ _)
  clear hm hw h1 h2 b0 b1 k0 hr hf hg htl0
  go_enter Tryz.func40, Tryz.ntmps40
  go_upto_region 2 with fail
  clear hW0 hmk
  have C0 : Hid (CRow W0 (W0.alloc (.cells (madeCells #[.int .i64 0] m.tos.length) 3)) W0.heap.size m.tos.length (fun _ => 0)) := CRow.start W0 m.tos.length
  generalize W0.alloc (.cells (madeCells #[.int .i64 0] m.tos.length) 3) = W1 at *
  obtain ⟨x2, y0, y1, _⟩ := HX.out W1 C0.out.1
  generalize W0.heap.size = ab at *
  go_wp2
  clear x2 y0 y1
  go_loopw [22] (fun iv wr => ∃ k : Nat, k ≤ m.tos.length ∧ iv = .int .i64 k ∧ CRow W0 wr ab m.tos.length (fun i => if i < k then maskM m i else 0)) (fun iv _ => m.tos.length - (intOf iv).toNat)
  case atStart => exact ⟨0, Nat.zero_le _, rfl, C0.out.congr (fun i hi => by simp)⟩
  case round =>
    obtain ⟨k, hk, rfl, hcr⟩ := hrel
    have HCR : Hid _ := hcr
    have hkr := hcr.1
    clear hcr
    by_cases hlt : k < m.tos.length
    · have hki : (k : Int) < (m.tos.length : Int) := by omega
      have hrne : m.tos[k] ≠ [] := HF.out.ne _ (List.getElem_mem hlt)
      have hrl : (m.tos[k]).length ≤ 12 := by have := HF.out.row k; rwa [getD_at hlt] at this
      have ct := (HR.out.tr wr hkr k hlt).1 hrne
      go_wp2
      clear ct
      go_loopw [29] (fun jv wr => ∃ j : Nat, j ≤ (m.tos[k]).length ∧ jv = .int .i64 j ∧ CRow W0 wr ab m.tos.length (fun i => if i < k then maskM m i else if i = k then maskL ((m.tos[k]).take j) else 0)) (fun jv _ => (m.tos[k]).length - (intOf jv).toNat)
      case atStart => exact ⟨0, Nat.zero_le _, rfl, CRow.congr HCR.out (fun i hi => by simp [maskL])⟩
      case round =>
        obtain ⟨j, hj, rfl, hcr⟩ := hrel
        have hkr := hcr.1
        by_cases hjl : j < (m.tos[k]).length
        · have hji : (j : Int) < ((m.tos[k]).length : Int) := by omega
          have ce := HR.out.te wr hkr k hlt j hjl
          have hrg := HF.out.rng _ (List.getElem_mem hlt) _ (List.getElem_mem hjl)
          obtain ⟨tn, htn⟩ : ∃ tn : Nat, (m.tos[k])[j] = (tn : Int) := ⟨((m.tos[k])[j]).toNat, by omega⟩
          have HSN : Hid (maskL ((m.tos[k]).take (j + 1)) = maskL ((m.tos[k]).take j) ||| 2 ^ tn) := by rw [Hid, take_step hjl, maskL_snoc, htn, Int.toNat_natCast]
          rw [htn] at ce hrg
          have ht12 : tn < 12 := by omega
          obtain ⟨cc, fc⟩ := hcr.2.2 k hlt
          simp only [Nat.lt_irrefl, if_false, if_true] at cc
          have hml : maskL ((m.tos[k]).take j) < 4096 := maskL_lt _ (fun t ht => by
            have := HF.out.rng _ (List.getElem_mem hlt) t (List.mem_of_mem_take ht)
            omega)
          have HCR2 : Hid _ := hcr
          clear hcr hrg htn
          generalize hmy : maskL ((m.tos[k]).take j) = y at *
          go_wp2
          go_region
          have hv : bits BinOp.or IntKind.i64 (y : Int) (wrap64 (2 ^ tn)) = ((y ||| 2 ^ tn : Nat) : Int) := by
            rw [wrap_pow ht12]
            have hp : 2 ^ tn < 2 ^ 12 := Nat.pow_lt_pow_right (by decide) ht12
            exact or_mask y (2 ^ tn) hml hp
          rw [hv]
          go_wp2
          go_roundw
          case rel =>
            refine ⟨j + 1, by omega, by simp, CRow.drew (CRow.put HCR2.out hlt (fun i hi => ?_))⟩
            by_cases e : i = k
            · subst e
              simp [HSN.out]
            · simp [e]
          case measure => simp [intOf]; omega
        · obtain rfl : j = (m.tos[k]).length := by omega
          rw [List.take_length] at hcr
          have HCR2 : Hid _ := hcr
          clear hcr
          go_wp2
          go_roundw
          case rel =>
            refine ⟨k + 1, by omega, by simp, CRow.congr HCR2.out (fun i hi => ?_)⟩
            by_cases e : i = k
            · subst e
              have e4 : maskM m (i : Int) = maskL m.tos[i] := by rw [maskM, Int.toNat_natCast, getD_at hlt]
              simp [e4]
            · by_cases e2 : i < k
              · have e3 : i < k + 1 := by omega
                simp [e2, e3]
              · have e3 : ¬ i < k + 1 := by omega
                simp [e2, e3, e]
          case measure => simp [intOf]; omega
    · obtain rfl : k = m.tos.length := by omega
      have HM : Hid (CRow W0 wr ab m.tos.length (fun i => maskM m i)) := CRow.congr HCR.out (fun i hi => by simp [hi])
      obtain ⟨x2, y0, y1, _⟩ := HX.out wr hkr
      have hlp : 0 < lp.length := by
        have := HG.out
        simp only [goodW, Bool.and_eq_true, Bool.not_eq_true', List.isEmpty_eq_false_iff] at this
        exact List.length_pos_iff.2 this.1.1
      have hlpi : (1 : Int) ≤ (lp.length : Int) := by omega
      have hlci : (1 : Int) ≤ (lc2 : Int) := by omega
      clear HCR
      go_wp2
      go_region
      have k3 : Kept (fun _ => False) wr (wr.alloc (.cells #[.slice ha hd.length hc, .slice la lp.length lc2, .slice la 1 lc2] 23)).drew := ((Kept.refl _ _).alloc _).drew
      have b3 : (wr.alloc (.cells #[.slice ha hd.length hc, .slice la lp.length lc2, .slice la 1 lc2] 23)).drew.heap[wr.heap.size]? = some (.cells #[.slice ha hd.length hc, .slice la lp.length lc2, .slice la 1 lc2] 23 (0, 0)) := alloc_blk _ _
      generalize (wr.alloc (.cells #[.slice ha hd.length hc, .slice la lp.length lc2, .slice la 1 lc2] 23)).drew = W3 at *
      have HA : Hid (∀ W, Kept (fun _ => False) W3 W → ∀ i, i < m.tos.length → W.cell? ⟨ab, i, none⟩ = some (.int .i64 (maskM m i))) := fun W hk i hi => ((HM.out.kept k3).kept hk).2.2 i hi |>.1
      have HL : Hid (∀ q, q < 3 → ∃ a c, ∀ W, Kept (fun _ => False) W3 W → W.cell? ⟨wr.heap.size, q, none⟩ = some (.slice a (threeL hd lp q).length c) ∧ IntsV B W (.slice a (threeL hd lp q).length c) (threeL hd lp q)) := by
        intro q hq
        have hc3 : ∀ W, Kept (fun _ => False) W3 W → ∀ j, W.cell? ⟨wr.heap.size, j, none⟩ = W3.cell? ⟨wr.heap.size, j, none⟩ := fun W hk j => hk.cell (p := ⟨wr.heap.size, j, none⟩) (Array.getElem?_eq_some_iff.1 b3).1 (fun f => f)
        have hI : ∀ W, Kept (fun _ => False) W3 W → IntsV B W (.slice ha hd.length hc) hd ∧ IntsV B W (.slice la lp.length lc2) lp := fun W hk => (HX.out W ((hkr.trans k3 (fun _ _ f => f)).trans hk (fun _ _ f => f))).2.2.2
        match q, hq with
        | 0, _ => exact ⟨ha, hc, fun W hk => ⟨(hc3 W hk 0).trans (blk_cell b3 0), (hI W hk).1⟩⟩
        | 1, _ => exact ⟨la, lc2, fun W hk => ⟨(hc3 W hk 1).trans (blk_cell b3 1), (hI W hk).2⟩⟩
        | 2, _ =>
          have e : (threeL hd lp 2).length = 1 := by simp [threeL]; omega
          rw [e]
          refine ⟨la, lc2, fun W hk => ⟨(hc3 W hk 2).trans (blk_cell b3 2), ?_⟩⟩
          obtain ⟨a', cap', e1, e2, e3, e4⟩ := (hI W hk).2
          cases e1
          refine ⟨la, lc2, by rw [e], by rw [e]; omega, by rw [e]; omega, fun i x hx => e4 i x ?_⟩
          have : (lp.take 1)[i]? = some x := hx
          rw [List.getElem?_take] at this
          split at this
          · exact this
          · cases this
      have HN : Hid (∀ q, q < 3 → ∀ t ∈ threeL hd lp q, 0 ≤ t ∧ t ≤ 255) := by
        have hg := HG.out
        simp only [goodW, Bool.and_eq_true, List.all_eq_true, okNum, decide_eq_true_eq] at hg
        intro q hq t ht
        match q, hq with
        | 0, _ => exact hg.2.1 t ht
        | 1, _ => exact hg.2.2 t ht
        | 2, _ => exact hg.2.2 t (List.mem_of_mem_take ht)
      have HE : Hid (startB m (hd ++ lp ++ lp.take 1) = (runM m 1 (preL (threeL hd lp) 3)).isSome) := by
        have e : preL (threeL hd lp) 3 = hd ++ lp ++ lp.take 1 := rfl
        rw [Hid, e]
        symm
        refine runM_start HF.out _ (fun h => ?_) (fun t ht => ?_)
        · simp at h
          have := h.2
          rw [this] at hlp
          simp at hlp
        · simp only [List.mem_append] at ht
          rcases ht with (h | h) | h
          · exact (HN.out 0 (by decide) t h).1
          · exact (HN.out 1 (by decide) t h).1
          · exact (HN.out 2 (by decide) t h).1
      have HK3 : Hid (Kept (fun _ => False) w W3) := (HK0.out.trans hkr (fun _ _ f => f)).trans k3 (fun _ _ f => f)
      have HTN : Hid (m.tos.length = m.names.length) := HF.out.t
      generalize wr.heap.size = b3n at *
      clear HM x2 y0 y1 hkr k3 b3
      go_wp2
      go_loopw [10, 52] (fun nv iv wr => ∃ q y : Nat, q ≤ 3 ∧ iv = .int .i64 q ∧ nv = .int .i64 y ∧ y < 4096 ∧ (∀ i, y.testBit i = true → i < m.tos.length) ∧ runM m 1 (preL (threeL hd lp) q) = some y ∧ Kept (fun _ => False) W3 wr) (fun _ iv _ => 3 - (intOf iv).toNat)
      case atStart =>
        refine ⟨0, 1, by decide, rfl, rfl, by decide, fun i hi => ?_, rfl, Kept.refl _ _⟩
        have h2 := Nat.testBit_two_pow (n := 0) (m := i)
        rw [Nat.pow_zero, hi] at h2
        have : 0 = i := by simpa using h2.symm
        rw [HTN.out]
        omega
      case round =>
        obtain ⟨q, y, hq, rfl, rfl, hy, hbt, hrun, hkr⟩ := hrel
        have HBT : Hid _ := hbt
        have HRUN : Hid _ := hrun
        clear hbt hrun
        by_cases hq3 : q < 3
        · have hqi : (q : Int) < 3 := by omega
          obtain ⟨a, c, hac⟩ := HL.out q hq3
          have HAC : Hid _ := hac
          clear hac
          obtain ⟨cq, hI⟩ := HAC.out wr hkr
          have hlen : (threeL hd lp q).length ≤ 17592186044416 := by obtain ⟨_, _, _, _, h, _⟩ := id hI; exact h
          clear hI
          go_wp2
          clear cq
          go_loopw [10, 58] (fun nv jv wr => ∃ j y : Nat, j ≤ (threeL hd lp q).length ∧ jv = .int .i64 j ∧ nv = .int .i64 y ∧ y < 4096 ∧ (∀ i, y.testBit i = true → i < m.tos.length) ∧ runM m 1 (preL (threeL hd lp) q ++ (threeL hd lp q).take j) = some y ∧ Kept (fun _ => False) W3 wr) (fun _ jv _ => (threeL hd lp q).length - (intOf jv).toNat)
          case atStart => exact ⟨0, y, Nat.zero_le _, rfl, rfl, hy, HBT.out, by simpa using HRUN.out, hkr⟩
          case round =>
            obtain ⟨j, z, hj, rfl, rfl, hz, hbt, hrun, hkr⟩ := hrel
            clear HBT HRUN
            have HBT : Hid (∀ i, z.testBit i = true → i < m.tos.length) := hbt
            have HRUN : Hid (runM m 1 (preL (threeL hd lp) q ++ (threeL hd lp q).take j) = some z) := hrun
            clear hbt hrun
            by_cases hjl : j < (threeL hd lp q).length
            · have hji : (j : Int) < ((threeL hd lp q).length : Int) := by omega
              obtain ⟨cq2, hI⟩ := HAC.out wr hkr
              obtain ⟨eb, eo, rfl, _, ce⟩ := hI.ls.cell (i := j) (x := .int .i64 (threeL hd lp q)[j]) (by simp [hjl])
              have hrg := HN.out q hq3 _ (List.getElem_mem hjl)
              obtain ⟨tn, htn⟩ : ∃ tn : Nat, (threeL hd lp q)[j] = (tn : Int) := ⟨((threeL hd lp q)[j]).toNat, by omega⟩
              have HST : Hid (runM m 1 (preL (threeL hd lp) q ++ (threeL hd lp q).take (j + 1)) = if z.testBit tn = true then some (maskM m (tn : Int)) else none) := by
                rw [Hid, take_step hjl, ← List.append_assoc, runM_app, HRUN.out, htn]
                simp only [Option.bind, runM, Int.toNat_natCast]
              rw [htn] at ce hrg
              have ht255 : tn ≤ 255 := by omega
              clear hI htn hrg
              have hzz : z / 2 ^ tn < 4096 := Nat.lt_of_le_of_lt (Nat.div_le_self _ _) hz
              have HAND : Hid (bits BinOp.and IntKind.i64 ((z : Int) / 2 ^ min tn 64) 1 = ((z / 2 ^ tn % 2 : Nat) : Int)) := by
                have hsh : ((z : Int) / 2 ^ min tn 64) = ((z / 2 ^ min tn 64 : Nat) : Int) := by simp
                rw [Hid, hsh, div_min hz]
                exact and_mask (z / 2 ^ tn) hzz
              cases hb : z.testBit tn with
              | false =>
                have hbb : (bits BinOp.and IntKind.i64 ((z : Int) / 2 ^ min tn 64) 1 == 0) = true := by rw [HAND.out, (bit_ask z tn).2 hb]; rfl
                have HNO : Hid (runM m 1 (preL (threeL hd lp) 3) = none) := by
                  obtain ⟨r, hr⟩ := preL_split (threeL hd lp) 3 (q + 1) (by omega)
                  have hS := HST.out
                  rw [hb] at hS
                  have e1 : preL (threeL hd lp) (q + 1) = (preL (threeL hd lp) q ++ (threeL hd lp q).take (j + 1)) ++ (threeL hd lp q).drop (j + 1) := by rw [preL, List.append_assoc, List.take_append_drop]
                  rw [Hid, hr, e1, List.append_assoc, runM_app, hS]
                  rfl
                clear hzz hb
                go_wp2
                go_ret
                exact ⟨HK3.out.trans hkr (fun _ _ f => f), ret_bool (by rw [HE.out, HNO.out]; rfl)⟩
              | true =>
                have hbb : bits BinOp.and IntKind.i64 ((z : Int) / 2 ^ tn) 1 = 1 := by
                  have hA := HAND.out
                  have htl := HBT.out tn hb
                  rw [Nat.min_eq_left (by omega)] at hA
                  rw [hA]
                  have h1 : ¬ z / 2 ^ tn % 2 = 0 := fun e => by rw [(bit_ask z tn).1 e] at hb; cases hb
                  have h2 : z / 2 ^ tn % 2 = 1 := by omega
                  rw [h2]
                  rfl
                have htl := HBT.out tn hb
                have htli : (tn : Int) < (m.tos.length : Int) := by omega
                have cm := HA.out wr hkr tn htl
                have HNX : Hid (runM m 1 (preL (threeL hd lp) q ++ (threeL hd lp q).take (j + 1)) = some (maskM m (tn : Int))) := by rw [Hid, HST.out, hb]; rfl
                have HMB : Hid (∀ i, (maskM m (tn : Int)).testBit i = true → i < m.tos.length) := fun i hi => by
                  have h1 := maskM_bit HF.out (tn : Int) (i : Int) (by omega)
                  rw [Int.toNat_natCast, hi] at h1
                  have := stepB_rng HF.out h1.symm
                  rw [HTN.out]
                  omega
                have hml := maskM_lt HF.out (tn : Int)
                generalize maskM m (tn : Int) = y2 at *
                clear hzz hb
                go_wp2
                go_roundw
                case rel => exact ⟨j + 1, y2, by omega, by simp, rfl, hml, HMB.out, HNX.out, hkr⟩
                case measure => simp [intOf]; omega
            · obtain rfl : j = (threeL hd lp q).length := by omega
              rw [List.take_length] at HRUN
              go_wp2
              go_roundw
              case rel => exact ⟨q + 1, z, by omega, by simp, rfl, hz, HBT.out, HRUN.out, hkr⟩
              case measure => simp [intOf]; omega
        · obtain rfl : q = 3 := by omega
          go_wp2
          go_ret
          exact ⟨HK3.out.trans hkr (fun _ _ f => f), ret_bool (by rw [HE.out, HRUN.out]; rfl)⟩
end Go.Proofs.YtdbpdanocpfboabGreatDoor

/- The program's Path. -/
namespace Go.Proofs.YtdbpdanocpfboabGreatDoor
open Go.RowKit

theorem path_eq {m : MD} (hd lp : List Int) (hg : goodM m = true) : pathM m hd lp = (goodW hd lp && startB m (hd ++ lp ++ lp.take 1)) := by
  cases hw : goodW hd lp with
  | true =>
    simp only [goodW, Bool.and_eq_true, decide_eq_true_eq] at hw
    rw [pathM, hg, hw.1.1, decide_eq_true hw.1.2]
    simp
  | false =>
    rw [Bool.false_and]
    cases hp : pathM m hd lp with
    | false => rfl
    | true =>
      obtain ⟨hF, h20, hr⟩ := path_rng hp
      have h12 := hF.n12
      simp only [pathM, Bool.and_eq_true] at hp
      have : goodW hd lp = true := by
        simp only [goodW, Bool.and_eq_true, decide_eq_true_eq, List.all_eq_true, okNum]
        refine ⟨⟨hp.2.1, h20⟩, fun x hx => ?_, fun x hx => ?_⟩
        · have := hr x (.inl hx); omega
        · have := hr x (.inr hx); omega
      rw [this] at hw
      cases hw

set_option maxRecDepth 100000 in
set_option maxHeartbeats 2000000 in
theorem path20 (w : World) (B : Nat) (v wv : Value) (m : MD) (hd lp : List Int) (hm : ModV B w v m) (hw : WordV B w wv hd lp) (hB : B ≤ w.heap.size) (hsz : ∀ x ∈ m.names, x.size ≤ 9223372036854775807) :
    Calls Tryz.prog 20 #[v, wv] w fun e w' => Kept (fun _ => False) w w' ∧ e = .returned (.bool (pathM m hd lp)) := by
  obtain ⟨nv, lv, tv, rfl, _⟩ := id hm.ex
  obtain ⟨hv1, lv1, rfl, _⟩ := id hw
  obtain ⟨W0, hW0⟩ : ∃ W0, (w.alloc (.cells #[nv, lv, tv] 26)).alloc (.cells #[hv1, lv1] 43) = W0 := ⟨_, rfl⟩
  have k0 : Kept (fun _ => False) w W0 := by rw [← hW0]; exact ((Kept.refl _ _).alloc _).alloc _
  have b0 : W0.heap[w.heap.size]? = some (.cells #[nv, lv, tv] 26 (0, 0)) := by rw [← hW0]; exact (Below.heap_alloc _ _ _ (by simp)).trans (alloc_blk _ _)
  have b1 : W0.heap[w.heap.size + 1]? = some (.cells #[hv1, lv1] 43 (0, 0)) := by rw [← hW0]; have := alloc_blk (w.alloc (.cells #[nv, lv, tv] 26)) (.cells #[hv1, lv1] 43); rwa [World.size_alloc] at this
  have HX : Hid (∀ W, Kept (fun _ => False) W0 W → W.cell? ⟨w.heap.size, 0, none⟩ = some nv ∧ W.cell? ⟨w.heap.size, 1, none⟩ = some lv ∧ W.cell? ⟨w.heap.size, 2, none⟩ = some tv ∧ W.cell? ⟨w.heap.size + 1, 0, none⟩ = some hv1 ∧ W.cell? ⟨w.heap.size + 1, 1, none⟩ = some lv1) := fun W hk =>
    ⟨(hk.cell (p := ⟨w.heap.size, 0, none⟩) (lt_of_cell (blk_cell b0 0)) (fun f => f)).trans (blk_cell b0 0), (hk.cell (p := ⟨w.heap.size, 1, none⟩) (lt_of_cell (blk_cell b0 1)) (fun f => f)).trans (blk_cell b0 1), (hk.cell (p := ⟨w.heap.size, 2, none⟩) (lt_of_cell (blk_cell b0 2)) (fun f => f)).trans (blk_cell b0 2), (hk.cell (p := ⟨w.heap.size + 1, 0, none⟩) (lt_of_cell (blk_cell b1 0)) (fun f => f)).trans (blk_cell b1 0), (hk.cell (p := ⟨w.heap.size + 1, 1, none⟩) (lt_of_cell (blk_cell b1 1)) (fun f => f)).trans (blk_cell b1 1)⟩
  have HMW : Hid (∀ W, Kept (fun _ => False) W0 W → ModV B W (.agg #[nv, lv, tv]) m ∧ WordV B W (.agg #[hv1, lv1]) hd lp ∧ B ≤ W.heap.size) := fun W hk => ⟨hm.kept (k0.trans hk (fun _ _ f => f)) hB, hw.below ((k0.trans hk (fun _ _ f => f)).below hB (fun _ f => f.elim)), Nat.le_trans hB (Nat.le_trans k0.size hk.size)⟩
  have HSZ : Hid (∀ x ∈ m.names, x.size ≤ 9223372036854775807) := hsz
  have HK0 : Hid (Kept (fun _ => False) w W0) := k0
  obtain ⟨x0, x1, x2, y0, y1⟩ := HX.out W0 (Kept.refl _ _)
  have C1 := good10 W0 B _ m (HMW.out W0 (Kept.refl _ _)).1 (HMW.out W0 (Kept.refl _ _)).2.2 HSZ.out
  clear hm hw b0 b1 k0 hsz
  go_enter Tryz.func20, Tryz.ntmps20
  cases hg : goodM m with
  | false =>
    have HE : Hid (pathM m hd lp = false) := by rw [Hid, pathM, hg]; rfl
    rw [hg] at C1
    go_wp2_with (go_at_call 10; refine C1.mono ?_; rintro e w1 ⟨k1, rfl⟩)
    go_ret
    exact ⟨HK0.out.trans k1 (fun _ _ f => f), ret_bool HE.out.symm⟩
  | true =>
    rw [hg] at C1
    have HF : Hid (FitsP m) := goodM_fits hg
    have E := path_eq hd lp hg
    cases hgw : goodW hd lp with
    | false =>
      rw [hgw, Bool.false_and] at E
      have HE : Hid (pathM m hd lp = false) := E
      clear E
      go_wp2_with (first
        | (go_at_call 10; refine C1.mono ?_; rintro e w1 ⟨k1, rfl⟩; clear x0 x1 x2 y0 y1; obtain ⟨x0, x1, x2, y0, y1⟩ := HX.out w1 k1)
        | (go_at_call 23; refine (good23 w1 B _ hd lp (HMW.out w1 k1).2.1 (HMW.out w1 k1).2.2).mono ?_; rw [hgw]; rintro e w2 ⟨rfl, k2⟩; clear x0 x1 x2 y0 y1; obtain ⟨x0, x1, x2, y0, y1⟩ := HX.out w2 (k1.trans k2 (fun _ _ f => f))))
      go_ret
      exact ⟨(HK0.out.trans k1 (fun _ _ f => f)).trans k2 (fun _ _ f => f), ret_bool HE.out.symm⟩
    | true =>
      rw [hgw, Bool.true_and] at E
      have HE : Hid (pathM m hd lp = startB m (hd ++ lp ++ lp.take 1)) := E
      have HGW : Hid (goodW hd lp = true) := hgw
      clear E
      go_wp2_with (first
        | (go_at_call 10; refine C1.mono ?_; rintro e w1 ⟨k1, rfl⟩; clear x0 x1 x2 y0 y1; obtain ⟨x0, x1, x2, y0, y1⟩ := HX.out w1 k1)
        | (go_at_call 23; refine (good23 w1 B _ hd lp (HMW.out w1 k1).2.1 (HMW.out w1 k1).2.2).mono ?_; rw [HGW.out]; rintro e w2 ⟨rfl, k2⟩; have K2 := k1.trans k2 (fun _ _ f => f); clear x0 x1 x2 y0 y1; obtain ⟨x0, x1, x2, y0, y1⟩ := HX.out w2 K2)
        | (go_at_call 40; refine (follows40 w2 B _ _ m hd lp (HMW.out w2 K2).1 (HMW.out w2 K2).2.1 (HMW.out w2 K2).2.2 HF.out HGW.out).mono ?_; rintro e w3 ⟨k3, rfl⟩))
      go_ret
      exact ⟨(HK0.out.trans K2 (fun _ _ f => f)).trans k3 (fun _ _ f => f), ret_bool (by rw [HE.out, List.append_assoc])⟩
end Go.Proofs.YtdbpdanocpfboabGreatDoor
