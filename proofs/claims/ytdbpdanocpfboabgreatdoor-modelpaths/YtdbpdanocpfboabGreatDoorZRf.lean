import Derived.Test.YtdbpdanocpfboabGreatDoorZRx
/- The document's Fits. -/
namespace Go.Proofs.YtdbpdanocpfboabGreatDoor
open Go.RowKit

/-- a goal that is not to be looked into -/
structure Blk (p : Prop) : Prop where
  out : p
theorem blk_step {P : Program} {ops : Array Oper} {C : World → Prop} {Q : Act → Prop} {a : Act} {o : Oper} {rest : List Oper}
    (h : ∀ K : Act → Prop, (∀ a, Blk (wpQuiet P ops C Q rest a) → K a) → if Region.wanted o (yielded ops a.tmps) then o.quiet P a C K else K (a.put o.dst undef)) : Blk (wpQuiet P ops C Q (o :: rest) a) :=
  ⟨wpQuiet_step fun K hK => h K fun a ha => hK a ha.out⟩
theorem blk_nil {P : Program} {ops : Array Oper} {C : World → Prop} {Q : Act → Prop} {a : Act} (h : Q a) : Blk (wpQuiet P ops C Q [] a) := ⟨wpQuiet_nil h⟩
theorem wp_region_blk_kept {P : Program} {id : Nat} {Q : Exit → Act → World → Prop} {a : Act} {w : World} {l : List Oper} (hm : P.follows .mixedOrders = true) (hB : Region.lexB .any l.toArray = true)
    (h : Blk (wpQuiet P l.toArray (fun w' => ∃ U : KW w, w' = U.1) (fun a' => ∀ w', (∃ U : KW w, w' = U.1) → Q .normal a' w') l a)) : (Code.region id l.toArray true).wp P Q a w :=
  wp_region_quiet_kept hm hB h.out
theorem isName55k (w : World) (s : ByteArray) (hs : s.size ≤ 9223372036854775807) (z : Bool) (hz : nameB s = z) : Calls Tryz.prog 55 #[.string s] w fun e w' => Kept (fun _ => False) w w' ∧ e = .returned (.bool z) :=
  (isName55 w s hs).mono (by rintro e w' ⟨rfl, rfl⟩; exact ⟨Kept.refl _ _, ret_bool hz⟩)
def lineOK (m : MD) (i : Nat) : Prop := ∀ (h : i < m.names.length) (h2 : i < m.letters.length) (h3 : i < m.tos.length), nameB m.names[i] = true ∧ m.names[i] ∉ m.names.take i ∧ okNum m.letters[i] = true ∧ rowB m.names.length m.tos[i] = true
theorem nodup_of_take {α : Type} : ∀ {l : List α}, (∀ i (h : i < l.length), l[i] ∉ l.take i) → l.Nodup := by
  intro l h
  have : ∀ k, (l.take k).Nodup := by
    intro k
    induction k with
    | zero => simp
    | succ k ih =>
      by_cases hk : k < l.length
      · rw [nodup_take_succ hk]
        exact ⟨ih, h k hk⟩
      · rw [List.take_of_length_le (by omega)]
        rw [List.take_of_length_le (by omega)] at ih
        exact ih
  have h2 := this l.length
  rwa [List.take_length] at h2
theorem fits_yes {m : MD} (h0 : 0 < m.names.length) (h12 : m.names.length ≤ 12) (hl : m.letters.length = m.names.length) (ht : m.tos.length = m.names.length) (h : ∀ i, i < m.names.length → lineOK m i) : fitsB m = true := by
  have hh : ∀ i (h1 : i < m.names.length), nameB m.names[i] = true ∧ m.names[i] ∉ m.names.take i ∧ okNum (m.letters[i]'(by omega)) = true ∧ rowB m.names.length (m.tos[i]'(by omega)) = true := fun i h1 => h i h1 h1 (by omega) (by omega)
  simp only [fitsB, Bool.and_eq_true, decide_eq_true_eq, List.all_eq_true]
  refine ⟨h0, h12, hl, ht, fun x hx => ?_, nodup_of_take (fun i hi => (hh i hi).2.1), fun x hx => ?_, fun x hx => ?_⟩
  · obtain ⟨i, hi, rfl⟩ := List.mem_iff_getElem.1 hx
    exact (hh i hi).1
  · obtain ⟨i, hi, rfl⟩ := List.mem_iff_getElem.1 hx
    exact (hh i (by omega)).2.2.1
  · obtain ⟨i, hi, rfl⟩ := List.mem_iff_getElem.1 hx
    exact (hh i (by omega)).2.2.2
theorem fits_no {m : MD} {i : Nat} (hi : i < m.names.length) (h2 : i < m.letters.length) (h3 : i < m.tos.length) (h : ¬ (nameB m.names[i] = true ∧ m.names[i] ∉ m.names.take i ∧ okNum m.letters[i] = true ∧ rowB m.names.length m.tos[i] = true)) : fitsB m = false := by
  cases hf : fitsB m with
  | false => rfl
  | true =>
    have hP := (fitsB_iff m).1 hf
    refine absurd ⟨hP.nm _ (List.getElem_mem hi), fun hm => ?_, ?_, ?_⟩ h
    · have := (nodup_take_succ hi).1 (hP.nd.sublist (List.take_sublist _ _))
      exact this.2 hm
    · have := hP.lt _ (List.getElem_mem h2)
      simp [okNum, this]
    · simp only [rowB, Bool.and_eq_true, Bool.not_eq_true', List.isEmpty_eq_false_iff, List.all_eq_true, decide_eq_true_eq]
      exact ⟨hP.ne _ (List.getElem_mem h3), hP.rng _ (List.getElem_mem h3), hP.rnd _ (List.getElem_mem h3)⟩
theorem StrsV.take {B : Nat} {w : World} {b off n cap : Nat} {xs : List ByteArray} (h : StrsV B w (.slice (some ⟨b, off, none⟩) n cap) xs) {j : Nat} (hj : j ≤ xs.length) : StrsV B w (.slice (some ⟨b, off, none⟩) j cap) (xs.take j) := by
  have := StrsV.sub h (Nat.zero_le j) hj
  simpa using this

set_option maxRecDepth 100000 in
set_option maxHeartbeats 4000000 in
theorem fits39 (w : World) (B : Nat) (v : Value) (m : MD) (hm : ModV B w v m) (hB : B ≤ w.heap.size) (hsz : ∀ x ∈ m.names, x.size ≤ 9223372036854775807) : Calls Tryz.prog 39 #[v] w fun e w' => Kept (fun _ => False) w w' ∧ e = .returned (.bool (fitsB m)) := by
  by_cases hh : 0 < m.names.length ∧ m.names.length ≤ 12 ∧ m.letters.length = m.names.length ∧ m.tos.length = m.names.length
  · obtain ⟨h0, h12, hle, hte⟩ := hh
    obtain ⟨nb, no, nc, lb, lo, lc, tb, to_, tc, rb, ro, rc, rfl, hr⟩ := MRd.mk' hm hB h0 (by omega) (by omega)
    obtain ⟨W0, hW0⟩ : ∃ W0, W0 = w.alloc (.cells #[.slice (some ⟨nb, no, none⟩) m.names.length nc, .slice (some ⟨lb, lo, none⟩) m.letters.length lc, .slice (some ⟨tb, to_, none⟩) m.tos.length tc] 30) := ⟨_, rfl⟩
    have k0 : Kept (fun _ => False) w W0 := by rw [hW0]; exact (Kept.refl _ _).alloc _
    have bk : W0.heap[w.heap.size]? = some (.cells #[.slice (some ⟨nb, no, none⟩) m.names.length nc, .slice (some ⟨lb, lo, none⟩) m.letters.length lc, .slice (some ⟨tb, to_, none⟩) m.tos.length tc] 30 (0, 0)) := by rw [hW0]; exact alloc_blk _ _
    have HN : Hid (StrsV B W0 (.slice (some ⟨nb, no, none⟩) m.names.length nc) m.names) := by
      obtain ⟨nv, lv, tv, e, hn, _⟩ := hm.ex
      cases e
      exact LsV.kept hn k0 hB
    have HR : Hid (MRd W0 nb no nc lb lo lc tb to_ tc rb ro rc m) := hr.kept k0
    have HBX : Hid (∀ W, Kept (fun _ => False) W0 W → W.cell? ⟨w.heap.size, 0, none⟩ = some (.slice (some ⟨nb, no, none⟩) m.names.length nc) ∧ W.cell? ⟨w.heap.size, 1, none⟩ = some (.slice (some ⟨lb, lo, none⟩) m.letters.length lc) ∧ W.cell? ⟨w.heap.size, 2, none⟩ = some (.slice (some ⟨tb, to_, none⟩) m.tos.length tc)) := fun W hk =>
      ⟨(hk.cell (p := ⟨w.heap.size, 0, none⟩) (lt_of_cell (blk_cell bk 0)) (fun f => f)).trans (blk_cell bk 0), (hk.cell (p := ⟨w.heap.size, 1, none⟩) (lt_of_cell (blk_cell bk 1)) (fun f => f)).trans (blk_cell bk 1), (hk.cell (p := ⟨w.heap.size, 2, none⟩) (lt_of_cell (blk_cell bk 2)) (fun f => f)).trans (blk_cell bk 2)⟩
    have HK0 : Hid (Kept (fun _ => False) w W0) := k0
    have hB0 : B ≤ W0.heap.size := Nat.le_trans hB k0.size
    have HSZ : Hid (∀ x ∈ m.names, x.size ≤ 9223372036854775807) := hsz
    have hnc := hr.cap
    clear hm hr k0 bk hsz
    obtain ⟨x0, x1, x2⟩ := HBX.out W0 (Kept.refl _ _)
    have b0 : ((m.names.length : Int) == 0) = false := beq_eq_false_iff_ne.2 (by omega)
    have b1 : ¬ (12 : Int) < (m.names.length : Int) := by omega
    have b2 : ((m.letters.length : Int) != (m.names.length : Int)) = false := by simp; omega
    have b3 : ((m.tos.length : Int) != (m.names.length : Int)) = false := by simp; omega
    have HLE : Hid (m.letters.length = m.names.length) := hle
    have HTE : Hid (m.tos.length = m.names.length) := hte
    clear hle hte
    go_enter Tryz.func39, Tryz.ntmps39
    go_upto_region 1 with fail
    rw [← hW0]
    clear hW0
    go_wp2
    go_loopw [4] (fun iv wr => ∃ k : Nat, k ≤ m.names.length ∧ iv = .int .i64 k ∧ (∀ i, i < k → lineOK m i) ∧ Kept (fun _ => False) W0 wr) (fun iv _ => m.names.length - (intOf iv).toNat)
    case atStart => exact ⟨0, Nat.zero_le _, rfl, fun i h => absurd h (by omega), Kept.refl _ _⟩
    case round =>
      obtain ⟨k, hk, rfl, hall, hkr⟩ := hrel
      have HA : Hid (∀ i, i < k → lineOK m i) := hall
      clear hall x0 x1 x2
      obtain ⟨x0, x1, x2⟩ := HBX.out wr hkr
      by_cases hlt : k < m.names.length
      · have hki : (k : Int) < (m.names.length : Int) := by omega
        have hll : k < m.letters.length := by rw [HLE.out]; exact hlt
        have htl : k < m.tos.length := by rw [HTE.out]; exact hlt
        have hki2 : (k : Int) < (m.letters.length : Int) := by omega
        have hki3 : (k : Int) < (m.tos.length : Int) := by omega
        have hkc : (k : Int) ≤ (nc : Int) := by omega
        have cn := HR.out.nm wr hkr k hlt
        have cl := HR.out.lt wr hkr k hll
        have hns := HSZ.out _ (List.getElem_mem hlt)
        have HNO : Hid (¬ (nameB m.names[k] = true ∧ m.names[k] ∉ m.names.take k ∧ okNum m.letters[k] = true ∧ rowB m.names.length m.tos[k] = true) → fitsB m = false) := fits_no hlt hll htl
        have HYES : Hid (nameB m.names[k] = true ∧ m.names[k] ∉ m.names.take k ∧ okNum m.letters[k] = true ∧ rowB m.names.length m.tos[k] = true → ∀ i, i < k + 1 → lineOK m i) := fun h i hi => by
          by_cases e : i = k
          · subst e; intro _ _ _; exact h
          · exact HA.out i (by omega)
        have HTK : Hid (StrsV B wr (.slice (some ⟨nb, no, none⟩) k nc) (m.names.take k)) := StrsV.take (LsV.kept HN.out hkr hB0) hk
        generalize hnk : m.names[k] = nk at *
        generalize hlk : m.letters[k] = lk at *
        obtain ⟨zn, n0⟩ : ∃ zn, nameB nk = zn := ⟨_, rfl⟩
        obtain ⟨z, hz⟩ : ∃ z, findZ (m.names.take k) nk = z := ⟨_, rfl⟩
        obtain ⟨ra, rca, ct⟩ : ∃ ra rca, wr.cell? ⟨tb, to_ + k, none⟩ = some (.slice ra (m.tos[k]).length rca) := by
          by_cases he : m.tos[k] = []
          · obtain ⟨a, c, h⟩ := (HR.out.tr wr hkr k htl).2 he
            exact ⟨a, c, by rw [h, he]; rfl⟩
          · exact ⟨_, _, (HR.out.tr wr hkr k htl).1 he⟩
        go_upto_region 7 with fail
        cases zn with
        | false =>
          have HE : Hid (fitsB m = false) := HNO.out (by rw [n0]; rintro ⟨h, _⟩; cases h)
          have U0 : ∀ U : KW wr, U.1.cell? ⟨w.heap.size, 0, none⟩ = some (.slice (some ⟨nb, no, none⟩) m.names.length nc) := fun U => U.cell x0
          have U1 : ∀ U : KW wr, U.1.cell? ⟨w.heap.size, 1, none⟩ = some (.slice (some ⟨lb, lo, none⟩) m.letters.length lc) := fun U => U.cell x1
          have U2 : ∀ U : KW wr, U.1.cell? ⟨w.heap.size, 2, none⟩ = some (.slice (some ⟨tb, to_, none⟩) m.tos.length tc) := fun U => U.cell x2
          have U3 : ∀ U : KW wr, U.1.cell? ⟨nb, no + k, none⟩ = some (.string nk) := fun U => U.cell cn
          have U4 : ∀ U : KW wr, U.1.cell? ⟨lb, lo + k, none⟩ = some (.int .i64 lk) := fun U => U.cell cl
          refine wp_region_blk_kept (by kernel_rfl) (by kernel_rfl) ?_
          repeat (refine blk_step (fun K hK => ?_); go_simp; first | (refine hK _ ?_; clear hK K) | (apply Exists.intro; refine ⟨fun U => ?_, hK _ ?_⟩; (first | (go_at_call 55; exact Calls.quiet_kept (isName55k _ nk hns _ n0)) | (go_at_call 32; exact Calls.quiet_kept (find32k _ B _ (m.names.take k) nk z hz (LsV.kept HTK.out U.2 (Nat.le_trans hB0 hkr.size))))); clear hK K))
          refine blk_nil ?_
          intro w3 hw'
          have k3 : Kept (fun _ => False) wr w3 := by
            obtain ⟨U, rfl⟩ := hw'
            exact U.2
          clear hw' U0 U1 U2 U3 U4
          go_wp2
          go_ret
          exact ⟨HK0.out.trans (hkr.trans k3 (fun _ _ f => f)) (fun _ _ f => f), ret_bool HE.out.symm⟩
        | true =>
          by_cases hmem : nk ∈ m.names.take k
          · have hge : 0 ≤ z := hz ▸ findZ_pos.2 hmem
            have HE : Hid (fitsB m = false) := HNO.out (fun h => h.2.1 hmem)
            clear hmem
            have U0 : ∀ U : KW wr, U.1.cell? ⟨w.heap.size, 0, none⟩ = some (.slice (some ⟨nb, no, none⟩) m.names.length nc) := fun U => U.cell x0
            have U1 : ∀ U : KW wr, U.1.cell? ⟨w.heap.size, 1, none⟩ = some (.slice (some ⟨lb, lo, none⟩) m.letters.length lc) := fun U => U.cell x1
            have U2 : ∀ U : KW wr, U.1.cell? ⟨w.heap.size, 2, none⟩ = some (.slice (some ⟨tb, to_, none⟩) m.tos.length tc) := fun U => U.cell x2
            have U3 : ∀ U : KW wr, U.1.cell? ⟨nb, no + k, none⟩ = some (.string nk) := fun U => U.cell cn
            have U4 : ∀ U : KW wr, U.1.cell? ⟨lb, lo + k, none⟩ = some (.int .i64 lk) := fun U => U.cell cl
            refine wp_region_blk_kept (by kernel_rfl) (by kernel_rfl) ?_
            repeat (refine blk_step (fun K hK => ?_); go_simp; first | (refine hK _ ?_; clear hK K) | (apply Exists.intro; refine ⟨fun U => ?_, hK _ ?_⟩; (first | (go_at_call 55; exact Calls.quiet_kept (isName55k _ nk hns _ n0)) | (go_at_call 32; exact Calls.quiet_kept (find32k _ B _ (m.names.take k) nk z hz (LsV.kept HTK.out U.2 (Nat.le_trans hB0 hkr.size))))); clear hK K))
            refine blk_nil ?_
            intro w3 hw'
            have k3 : Kept (fun _ => False) wr w3 := by
              obtain ⟨U, rfl⟩ := hw'
              exact U.2
            clear hw' U0 U1 U2 U3 U4
            go_wp2
            go_ret
            exact ⟨HK0.out.trans (hkr.trans k3 (fun _ _ f => f)) (fun _ _ f => f), ret_bool HE.out.symm⟩
          · have hge : ¬ 0 ≤ z := fun h => hmem (findZ_pos.1 (hz ▸ h))
            have HMEM : Hid (nk ∉ m.names.take k) := hmem
            clear hmem
            by_cases hl0 : lk < 0
            · have HE : Hid (fitsB m = false) := HNO.out (fun h => by have := h.2.2.1; simp [okNum] at this; omega)
              have U0 : ∀ U : KW wr, U.1.cell? ⟨w.heap.size, 0, none⟩ = some (.slice (some ⟨nb, no, none⟩) m.names.length nc) := fun U => U.cell x0
              have U1 : ∀ U : KW wr, U.1.cell? ⟨w.heap.size, 1, none⟩ = some (.slice (some ⟨lb, lo, none⟩) m.letters.length lc) := fun U => U.cell x1
              have U2 : ∀ U : KW wr, U.1.cell? ⟨w.heap.size, 2, none⟩ = some (.slice (some ⟨tb, to_, none⟩) m.tos.length tc) := fun U => U.cell x2
              have U3 : ∀ U : KW wr, U.1.cell? ⟨nb, no + k, none⟩ = some (.string nk) := fun U => U.cell cn
              have U4 : ∀ U : KW wr, U.1.cell? ⟨lb, lo + k, none⟩ = some (.int .i64 lk) := fun U => U.cell cl
              refine wp_region_blk_kept (by kernel_rfl) (by kernel_rfl) ?_
              repeat (refine blk_step (fun K hK => ?_); go_simp; first | (refine hK _ ?_; clear hK K) | (apply Exists.intro; refine ⟨fun U => ?_, hK _ ?_⟩; (first | (go_at_call 55; exact Calls.quiet_kept (isName55k _ nk hns _ n0)) | (go_at_call 32; exact Calls.quiet_kept (find32k _ B _ (m.names.take k) nk z hz (LsV.kept HTK.out U.2 (Nat.le_trans hB0 hkr.size))))); clear hK K))
              refine blk_nil ?_
              intro w3 hw'
              have k3 : Kept (fun _ => False) wr w3 := by
                obtain ⟨U, rfl⟩ := hw'
                exact U.2
              clear hw' U0 U1 U2 U3 U4
              go_wp2
              go_ret
              exact ⟨HK0.out.trans (hkr.trans k3 (fun _ _ f => f)) (fun _ _ f => f), ret_bool HE.out.symm⟩
            · by_cases hl1 : 255 < lk
              · have HE : Hid (fitsB m = false) := HNO.out (fun h => by have := h.2.2.1; simp [okNum] at this; omega)
                have U0 : ∀ U : KW wr, U.1.cell? ⟨w.heap.size, 0, none⟩ = some (.slice (some ⟨nb, no, none⟩) m.names.length nc) := fun U => U.cell x0
                have U1 : ∀ U : KW wr, U.1.cell? ⟨w.heap.size, 1, none⟩ = some (.slice (some ⟨lb, lo, none⟩) m.letters.length lc) := fun U => U.cell x1
                have U2 : ∀ U : KW wr, U.1.cell? ⟨w.heap.size, 2, none⟩ = some (.slice (some ⟨tb, to_, none⟩) m.tos.length tc) := fun U => U.cell x2
                have U3 : ∀ U : KW wr, U.1.cell? ⟨nb, no + k, none⟩ = some (.string nk) := fun U => U.cell cn
                have U4 : ∀ U : KW wr, U.1.cell? ⟨lb, lo + k, none⟩ = some (.int .i64 lk) := fun U => U.cell cl
                refine wp_region_blk_kept (by kernel_rfl) (by kernel_rfl) ?_
                repeat (refine blk_step (fun K hK => ?_); go_simp; first | (refine hK _ ?_; clear hK K) | (apply Exists.intro; refine ⟨fun U => ?_, hK _ ?_⟩; (first | (go_at_call 55; exact Calls.quiet_kept (isName55k _ nk hns _ n0)) | (go_at_call 32; exact Calls.quiet_kept (find32k _ B _ (m.names.take k) nk z hz (LsV.kept HTK.out U.2 (Nat.le_trans hB0 hkr.size))))); clear hK K))
                refine blk_nil ?_
                intro w3 hw'
                have k3 : Kept (fun _ => False) wr w3 := by
                  obtain ⟨U, rfl⟩ := hw'
                  exact U.2
                clear hw' U0 U1 U2 U3 U4
                go_wp2
                go_ret
                exact ⟨HK0.out.trans (hkr.trans k3 (fun _ _ f => f)) (fun _ _ f => f), ret_bool HE.out.symm⟩
              · by_cases hr0 : (m.tos[k]).length = 0
                · have hr0b : (((m.tos[k]).length : Int) == 0) = true := by rw [hr0]; rfl
                  have HE : Hid (fitsB m = false) := HNO.out (fun h => by have := h.2.2.2; simp [rowB] at this; exact this.1 (List.eq_nil_of_length_eq_zero hr0))
                  clear hr0
                  have U0 : ∀ U : KW wr, U.1.cell? ⟨w.heap.size, 0, none⟩ = some (.slice (some ⟨nb, no, none⟩) m.names.length nc) := fun U => U.cell x0
                  have U1 : ∀ U : KW wr, U.1.cell? ⟨w.heap.size, 1, none⟩ = some (.slice (some ⟨lb, lo, none⟩) m.letters.length lc) := fun U => U.cell x1
                  have U2 : ∀ U : KW wr, U.1.cell? ⟨w.heap.size, 2, none⟩ = some (.slice (some ⟨tb, to_, none⟩) m.tos.length tc) := fun U => U.cell x2
                  have U3 : ∀ U : KW wr, U.1.cell? ⟨nb, no + k, none⟩ = some (.string nk) := fun U => U.cell cn
                  have U4 : ∀ U : KW wr, U.1.cell? ⟨lb, lo + k, none⟩ = some (.int .i64 lk) := fun U => U.cell cl
                  have U5 : ∀ U : KW wr, U.1.cell? ⟨tb, to_ + k, none⟩ = some (.slice ra (m.tos[k]).length rca) := fun U => U.cell ct
                  refine wp_region_blk_kept (by kernel_rfl) (by kernel_rfl) ?_
                  repeat (refine blk_step (fun K hK => ?_); go_simp; first | (refine hK _ ?_; clear hK K) | (apply Exists.intro; refine ⟨fun U => ?_, hK _ ?_⟩; (first | (go_at_call 55; exact Calls.quiet_kept (isName55k _ nk hns _ n0)) | (go_at_call 32; exact Calls.quiet_kept (find32k _ B _ (m.names.take k) nk z hz (LsV.kept HTK.out U.2 (Nat.le_trans hB0 hkr.size))))); clear hK K))
                  refine blk_nil ?_
                  intro w3 hw'
                  have k3 : Kept (fun _ => False) wr w3 := by
                    obtain ⟨U, rfl⟩ := hw'
                    exact U.2
                  clear hw' U0 U1 U2 U3 U4 U5
                  go_wp2
                  go_ret
                  exact ⟨HK0.out.trans (hkr.trans k3 (fun _ _ f => f)) (fun _ _ f => f), ret_bool HE.out.symm⟩
                · have hr0b : (((m.tos[k]).length : Int) == 0) = false := beq_eq_false_iff_ne.2 (by omega)
                  have hrne : m.tos[k] ≠ [] := fun e => hr0 (by rw [e]; rfl)
                  have HOKL : Hid (okNum lk = true) := by simp [Hid, okNum]; omega
                  have U0 : ∀ U : KW wr, U.1.cell? ⟨w.heap.size, 0, none⟩ = some (.slice (some ⟨nb, no, none⟩) m.names.length nc) := fun U => U.cell x0
                  have U1 : ∀ U : KW wr, U.1.cell? ⟨w.heap.size, 1, none⟩ = some (.slice (some ⟨lb, lo, none⟩) m.letters.length lc) := fun U => U.cell x1
                  have U2 : ∀ U : KW wr, U.1.cell? ⟨w.heap.size, 2, none⟩ = some (.slice (some ⟨tb, to_, none⟩) m.tos.length tc) := fun U => U.cell x2
                  have U3 : ∀ U : KW wr, U.1.cell? ⟨nb, no + k, none⟩ = some (.string nk) := fun U => U.cell cn
                  have U4 : ∀ U : KW wr, U.1.cell? ⟨lb, lo + k, none⟩ = some (.int .i64 lk) := fun U => U.cell cl
                  have U5 : ∀ U : KW wr, U.1.cell? ⟨tb, to_ + k, none⟩ = some (.slice ra (m.tos[k]).length rca) := fun U => U.cell ct
                  refine wp_region_blk_kept (by kernel_rfl) (by kernel_rfl) ?_
                  repeat (refine blk_step (fun K hK => ?_); go_simp; first | (refine hK _ ?_; clear hK K) | (apply Exists.intro; refine ⟨fun U => ?_, hK _ ?_⟩; (first | (go_at_call 55; exact Calls.quiet_kept (isName55k _ nk hns _ n0)) | (go_at_call 32; exact Calls.quiet_kept (find32k _ B _ (m.names.take k) nk z hz (LsV.kept HTK.out U.2 (Nat.le_trans hB0 hkr.size))))); clear hK K))
                  refine blk_nil ?_
                  intro w3 hw'
                  have k3 : Kept (fun _ => False) wr w3 := by
                    obtain ⟨U, rfl⟩ := hw'
                    exact U.2
                  clear hw' U0 U1 U2 U3 U4 U5
                  have hkr3 := hkr.trans k3 (fun _ _ f => f)
                  clear hkr k3 cn cl ct x0 x1 x2
                  have hbig := HR.out.big k htl
                  have HR1 : Hid (rowB m.names.length m.tos[k] = true → ∀ i, i < k + 1 → lineOK m i) := fun h => HYES.out ⟨n0, HMEM.out, HOKL.out, h⟩
                  have HR0 : Hid (¬ rowB m.names.length m.tos[k] = true → fitsB m = false) := fun h => HNO.out (fun h' => h h'.2.2.2)
                  go_wp2
                  go_loopw [5] (fun jv wr => ∃ j : Nat, j ≤ (m.tos[k]).length ∧ jv = .int .i64 j ∧ (∀ t ∈ (m.tos[k]).take j, 0 ≤ t ∧ t < (m.names.length : Int)) ∧ ((m.tos[k]).take j).Nodup ∧ Kept (fun _ => False) W0 wr) (fun jv _ => (m.tos[k]).length - (intOf jv).toNat)
                  case atStart => exact ⟨0, Nat.zero_le _, rfl, fun t h => by simp at h, by simp, hkr3⟩
                  case round =>
                    obtain ⟨j, hj, rfl, hrg, hnd, hkr⟩ := hrel
                    have HRG : Hid (∀ t ∈ (m.tos[k]).take j, 0 ≤ t ∧ t < (m.names.length : Int)) := hrg
                    have HND : Hid (((m.tos[k]).take j).Nodup) := hnd
                    clear hrg hnd
                    obtain ⟨x0, x1, x2⟩ := HBX.out wr hkr
                    have ct := (HR.out.tr wr hkr k htl).1 hrne
                    by_cases hjl : j < (m.tos[k]).length
                    · have hji : (j : Int) < ((m.tos[k]).length : Int) := by omega
                      have cj := HR.out.te wr hkr k htl j hjl
                      by_cases t0 : (m.tos[k])[j] < 0
                      · have HE : Hid (fitsB m = false) := HR0.out (fun h => by
                          simp only [rowB, Bool.and_eq_true, List.all_eq_true, decide_eq_true_eq] at h
                          have := (h.2.1 _ (List.getElem_mem hjl)).1
                          omega)
                        go_wp2
                        go_ret
                        exact ⟨HK0.out.trans hkr (fun _ _ f => f), ret_bool HE.out.symm⟩
                      · by_cases t1 : (m.names.length : Int) ≤ (m.tos[k])[j]
                        · have HE : Hid (fitsB m = false) := HR0.out (fun h => by
                            simp only [rowB, Bool.and_eq_true, List.all_eq_true, decide_eq_true_eq] at h
                            have := (h.2.1 _ (List.getElem_mem hjl)).2
                            omega)
                          go_wp2
                          go_ret
                          exact ⟨HK0.out.trans hkr (fun _ _ f => f), ret_bool HE.out.symm⟩
                        · have HRG2 : Hid (∀ t ∈ (m.tos[k]).take (j + 1), 0 ≤ t ∧ t < (m.names.length : Int)) := fun t ht => by
                            rw [List.take_add_one, List.getElem?_eq_getElem hjl] at ht
                            rcases List.mem_append.1 ht with h | h
                            · exact HRG.out t h
                            · simp at h
                              subst h
                              omega
                          have HND2 : Hid (((m.tos[k]).take (j + 1)).Nodup ↔ (m.tos[k])[j] ∉ (m.tos[k]).take j) := by
                            rw [Hid, nodup_take_succ hjl]
                            exact ⟨fun h => h.2, fun h => ⟨HND.out, h⟩⟩
                          go_wp2
                          clear cj ct x0 x1 x2
                          go_loopw [6] (fun iv wr => ∃ i : Nat, i ≤ j ∧ iv = .int .i64 i ∧ (∀ i' (h : i' < i) (h' : i' < (m.tos[k]).length), (m.tos[k])[i'] ≠ (m.tos[k])[j]) ∧ Kept (fun _ => False) W0 wr) (fun iv _ => j - (intOf iv).toNat)
                          case atStart => exact ⟨0, Nat.zero_le _, rfl, fun i' h => absurd h (by omega), hkr⟩
                          case round =>
                            obtain ⟨i, hi, rfl, hne, hkr⟩ := hrel
                            have HNE : Hid (∀ i' (h : i' < i) (h' : i' < (m.tos[k]).length), (m.tos[k])[i'] ≠ (m.tos[k])[j]) := hne
                            clear hne
                            obtain ⟨x0, x1, x2⟩ := HBX.out wr hkr
                            have ct := (HR.out.tr wr hkr k htl).1 hrne
                            by_cases hil : i < j
                            · have hii : (i : Int) < (j : Int) := by omega
                              have hil2 : i < (m.tos[k]).length := by omega
                              have hii2 : (i : Int) < ((m.tos[k]).length : Int) := by omega
                              have ci := HR.out.te wr hkr k htl i hil2
                              have cj := HR.out.te wr hkr k htl j hjl
                              go_upto_region 17 with fail
                              have U0 : ∀ U : KW wr, U.1.cell? ⟨w.heap.size, 2, none⟩ = some (.slice (some ⟨tb, to_, none⟩) m.tos.length tc) := fun U => U.cell x2
                              have U1 : ∀ U : KW wr, U.1.cell? ⟨tb, to_ + k, none⟩ = some (.slice (some ⟨rb k, ro k, none⟩) (m.tos[k]).length (rc k)) := fun U => U.cell ct
                              have U2 : ∀ U : KW wr, U.1.cell? ⟨rb k, ro k + i, none⟩ = some (.int .i64 (m.tos[k])[i]) := fun U => U.cell ci
                              have U3 : ∀ U : KW wr, U.1.cell? ⟨rb k, ro k + j, none⟩ = some (.int .i64 (m.tos[k])[j]) := fun U => U.cell cj
                              refine wp_region_blk_kept (by kernel_rfl) (by kernel_rfl) ?_
                              repeat (refine blk_step (fun K hK => ?_); go_simp; first | (refine hK _ ?_; clear hK K))
                              refine blk_nil ?_
                              intro w4 hw'
                              have k4 : Kept (fun _ => False) wr w4 := by
                                obtain ⟨U, rfl⟩ := hw'
                                exact U.2
                              clear hw' U0 U1 U2 U3
                              have hkr4 := hkr.trans k4 (fun _ _ f => f)
                              clear ci cj ct x0 x1 x2 hkr k4
                              by_cases he : (m.tos[k])[i] = (m.tos[k])[j]
                              · have heb : ((m.tos[k])[i] == (m.tos[k])[j]) = true := by simpa using he
                                have HE : Hid (fitsB m = false) := HR0.out (fun h => by
                                  simp only [rowB, Bool.and_eq_true, List.all_eq_true, decide_eq_true_eq] at h
                                  have h3 := (nodup_take_succ hjl).1 (h.2.2.sublist (List.take_sublist _ _))
                                  refine h3.2 ?_
                                  rw [← he, List.mem_iff_getElem]
                                  exact ⟨i, by simp; omega, by simp⟩)
                                clear he
                                go_wp2
                                go_ret
                                exact ⟨HK0.out.trans hkr4 (fun _ _ f => f), ret_bool HE.out.symm⟩
                              · have heb : ((m.tos[k])[i] == (m.tos[k])[j]) = false := by simpa using he
                                have HNE2 : Hid (∀ i' (h : i' < i + 1) (h' : i' < (m.tos[k]).length), (m.tos[k])[i'] ≠ (m.tos[k])[j]) := fun i' h h' => by
                                  by_cases e : i' = i
                                  · subst e; exact he
                                  · exact HNE.out i' (by omega) h'
                                clear he
                                go_wp2
                                go_roundw
                                case rel => exact ⟨i + 1, by omega, by simp, HNE2.out, hkr4⟩
                                case measure => simp [intOf]; omega
                            · obtain rfl : i = j := by omega
                              have HNDX : Hid (((m.tos[k]).take (i + 1)).Nodup) := HND2.out.2 (fun h => by
                                obtain ⟨i', h1, h2⟩ := List.mem_iff_getElem.1 h
                                simp only [List.length_take, List.getElem_take] at h1 h2
                                exact HNE.out i' (by omega) (by omega) h2)
                              go_wp2
                              go_roundw
                              case rel => exact ⟨i + 1, by omega, by simp, HRG2.out, HNDX.out, hkr⟩
                              case measure => simp [intOf]; omega
                    · obtain rfl : j = (m.tos[k]).length := by omega
                      have HRB : Hid (rowB m.names.length m.tos[k] = true) := by
                        have h1 := HRG.out
                        have h2 := HND.out
                        rw [List.take_length] at h1 h2
                        simp only [Hid, rowB, Bool.and_eq_true, List.all_eq_true, decide_eq_true_eq, Bool.not_eq_true', List.isEmpty_eq_false_iff]
                        exact ⟨hrne, h1, h2⟩
                      go_wp2
                      go_roundw
                      case rel => exact ⟨k + 1, by omega, by simp, HR1.out HRB.out, hkr⟩
                      case measure => simp [intOf]; omega
      · obtain rfl : k = m.names.length := by omega
        have HE : Hid (fitsB m = true) := fits_yes h0 h12 HLE.out HTE.out HA.out
        go_wp2
        go_ret
        exact ⟨HK0.out.trans hkr (fun _ _ f => f), ret_bool HE.out.symm⟩
  · have HE : Hid (fitsB m = false) := by
      cases hf : fitsB m with
      | false => rfl
      | true =>
        have hP := (fitsB_iff m).1 hf
        exact absurd ⟨hP.n0, hP.n12, hP.l, hP.t⟩ hh
    obtain ⟨nv, lv, tv, rfl, hn, hl, rs, hrl, ht, hr⟩ := hm.ex
    obtain ⟨na, nc, rfl, hnl⟩ := hn.form
    obtain ⟨la, lc, rfl, hll⟩ := hl.form
    obtain ⟨ta, tc, rfl, htl⟩ := ht.form
    rw [hrl] at *
    clear hn hl hr ht hrl hm hsz
    by_cases g0 : m.names.length = 0
    · have b0 : ((m.names.length : Int) == 0) = true := by rw [g0]; rfl
      clear hh g0
      go_enter Tryz.func39, Tryz.ntmps39
      go_wp2
      go_ret
      exact ⟨(Kept.refl _ _).alloc _, ret_bool HE.out.symm⟩
    · have b0 : ((m.names.length : Int) == 0) = false := beq_eq_false_iff_ne.2 (by omega)
      by_cases g12 : 12 < m.names.length
      · have b1 : (12 : Int) < (m.names.length : Int) := by omega
        clear hh g0
        go_enter Tryz.func39, Tryz.ntmps39
        go_wp2
        go_ret
        exact ⟨(Kept.refl _ _).alloc _, ret_bool HE.out.symm⟩
      · have b1 : ¬ (12 : Int) < (m.names.length : Int) := by omega
        by_cases gl : m.letters.length = m.names.length
        · have gt : ¬ m.tos.length = m.names.length := fun e => hh ⟨by omega, by omega, gl, e⟩
          have b2 : ((m.letters.length : Int) != (m.names.length : Int)) = false := by simp; omega
          have b3 : ((m.tos.length : Int) != (m.names.length : Int)) = true := by simp; omega
          clear hh g0 gl gt
          go_enter Tryz.func39, Tryz.ntmps39
          go_wp2
          go_ret
          exact ⟨(Kept.refl _ _).alloc _, ret_bool HE.out.symm⟩
        · have b2 : ((m.letters.length : Int) != (m.names.length : Int)) = true := by simp; omega
          clear hh g0 gl
          go_enter Tryz.func39, Tryz.ntmps39
          go_wp2
          go_ret
          exact ⟨(Kept.refl _ _).alloc _, ret_bool HE.out.symm⟩
end Go.Proofs.YtdbpdanocpfboabGreatDoor
