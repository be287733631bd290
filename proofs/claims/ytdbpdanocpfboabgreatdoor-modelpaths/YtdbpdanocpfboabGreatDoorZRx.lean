import Derived.Test.YtdbpdanocpfboabGreatDoorZRt
/- The document's text, walked. -/
namespace Go.Proofs.YtdbpdanocpfboabGreatDoor
open Go.RowKit

/-- a model's lists, each with a state or more, to be read in all later worlds -/
structure MRd (w : World) (nb no nc lb lo lc tb to_ tc : Nat) (rb ro rc : Nat → Nat) (m : MD) : Prop where
  nm : ∀ W, Kept (fun _ => False) w W → ∀ i (h : i < m.names.length), W.cell? ⟨nb, no + i, none⟩ = some (.string m.names[i])
  lt : ∀ W, Kept (fun _ => False) w W → ∀ i (h : i < m.letters.length), W.cell? ⟨lb, lo + i, none⟩ = some (.int .i64 m.letters[i])
  tr : ∀ W, Kept (fun _ => False) w W → ∀ i (h : i < m.tos.length), (m.tos[i] ≠ [] → W.cell? ⟨tb, to_ + i, none⟩ = some (.slice (some ⟨rb i, ro i, none⟩) m.tos[i].length (rc i))) ∧ (m.tos[i] = [] → ∃ a c, W.cell? ⟨tb, to_ + i, none⟩ = some (.slice a 0 c))
  te : ∀ W, Kept (fun _ => False) w W → ∀ i (h : i < m.tos.length) j (hj : j < (m.tos[i]).length), W.cell? ⟨rb i, ro i + j, none⟩ = some (.int .i64 (m.tos[i])[j])
  cap : m.names.length ≤ nc
  big : ∀ i (h : i < m.tos.length), (m.tos[i]).length ≤ 17592186044416

theorem MRd.mk' {B : Nat} {w : World} {v : Value} {m : MD} (h : ModV B w v m) (hB : B ≤ w.heap.size) (h1 : 0 < m.names.length) (h2 : 0 < m.letters.length) (h3 : 0 < m.tos.length) : ∃ nb no nc lb lo lc tb to_ tc rb ro rc, v = .agg #[.slice (some ⟨nb, no, none⟩) m.names.length nc, .slice (some ⟨lb, lo, none⟩) m.letters.length lc, .slice (some ⟨tb, to_, none⟩) m.tos.length tc] ∧ MRd w nb no nc lb lo lc tb to_ tc rb ro rc m := by
  obtain ⟨nv, lv, tv, rfl, hn, hl, rs, hrl, ht, hr⟩ := h.ex
  obtain ⟨na, nc, rfl, _⟩ := hn.form
  obtain ⟨la, lc, rfl, _⟩ := hl.form
  obtain ⟨ta, tc, rfl, _⟩ := ht.form
  obtain ⟨nb, no, rfl, _, _⟩ := StrsV.cell hn h1
  obtain ⟨lb, lo, rfl, _, _⟩ := LsV.cell hl.ls (i := 0) (x := .int .i64 m.letters[0]) (by simp [h2])
  have hr0 : 0 < rs.length := by omega
  obtain ⟨tb, to_, rfl, _, _⟩ := LsV.cell ht (List.getElem?_eq_getElem hr0)
  have hrow : ∀ i, ∃ b o c, ∀ (hi : i < rs.length) (hi' : i < m.tos.length), m.tos[i] ≠ [] → rs[i] = .slice (some ⟨b, o, none⟩) m.tos[i].length c := by
    intro i
    by_cases hi : i < rs.length
    · have hi' : i < m.tos.length := by omega
      have hI := hr i rs[i] m.tos[i] (List.getElem?_eq_getElem hi) (List.getElem?_eq_getElem hi')
      rcases hI.cases with ⟨h0, _⟩ | ⟨_, b, o, c, e, _⟩
      · exact ⟨0, 0, 0, fun _ _ h => absurd h0 h⟩
      · exact ⟨b, o, c, fun _ _ _ => e⟩
    · exact ⟨0, 0, 0, fun h => absurd h hi⟩
  refine ⟨nb, no, nc, lb, lo, lc, tb, to_, tc, fun i => (hrow i).choose, fun i => (hrow i).choose_spec.choose, fun i => (hrow i).choose_spec.choose_spec.choose, by rw [hrl], ⟨fun W hk i hi => ?_, fun W hk i hi => ?_, fun W hk i hi => ⟨fun hne => ?_, fun he => ?_⟩, fun W hk i hi j hj => ?_, ?_, fun i hi => ?_⟩⟩
  · obtain ⟨b', o', e, _, h⟩ := StrsV.cell (LsV.kept hn hk hB) hi
    cases e
    exact h
  · obtain ⟨b', o', e, _, h⟩ := LsV.cell (LsV.kept hl.ls hk hB) (i := i) (x := .int .i64 m.letters[i]) (by simp [hi])
    cases e
    exact h
  · have hi' : i < rs.length := by omega
    obtain ⟨b', o', e, _, h⟩ := LsV.cell (LsV.kept ht hk hB) (List.getElem?_eq_getElem hi')
    cases e
    rw [h, (hrow i).choose_spec.choose_spec.choose_spec hi' hi hne]
  · have hi' : i < rs.length := by omega
    obtain ⟨b', o', e, _, h⟩ := LsV.cell (LsV.kept ht hk hB) (List.getElem?_eq_getElem hi')
    cases e
    obtain ⟨a, c, e', _⟩ := (hr i rs[i] m.tos[i] (List.getElem?_eq_getElem hi') (List.getElem?_eq_getElem hi)).form
    rw [he] at e'
    exact ⟨a, c, by rw [h, e']; rfl⟩
  · have hi' : i < rs.length := by omega
    have hne : m.tos[i] ≠ [] := fun e => by rw [e] at hj; simp at hj
    have hI := (hr i rs[i] m.tos[i] (List.getElem?_eq_getElem hi') (List.getElem?_eq_getElem hi)).ls.kept hk hB
    rw [(hrow i).choose_spec.choose_spec.choose_spec hi' hi hne] at hI
    obtain ⟨b', o', e, _, h⟩ := LsV.cell hI (i := j) (x := .int .i64 (m.tos[i])[j]) (by simp [hj])
    cases e
    exact h
  · have := LsV.cap hn
    simpa using this
  · have hi' : i < rs.length := by omega
    obtain ⟨_, _, _, h⟩ := (hr i rs[i] m.tos[i] (List.getElem?_eq_getElem hi') (List.getElem?_eq_getElem hi)).form
    exact h
theorem MRd.kept {w w' : World} {nb no nc lb lo lc tb to_ tc : Nat} {rb ro rc : Nat → Nat} {m : MD} (h : MRd w nb no nc lb lo lc tb to_ tc rb ro rc m) (hk : Kept (fun _ => False) w w') : MRd w' nb no nc lb lo lc tb to_ tc rb ro rc m :=
  ⟨fun W hW => h.nm W (hk.trans hW (fun _ _ f => f)), fun W hW => h.lt W (hk.trans hW (fun _ _ f => f)), fun W hW => h.tr W (hk.trans hW (fun _ _ f => f)), fun W hW => h.te W (hk.trans hW (fun _ _ f => f)), h.cap, h.big⟩

theorem shown68k (w : World) (y : Int) (hy : 0 ≤ y ∧ y ≤ 255) (z : ByteArray) (hz : shownB y.toNat = z) : Calls Tryz.prog 68 #[.int .i64 y] w fun e w' => Kept (fun _ => False) w w' ∧ e = .returned (.string z) := by
  have := shown68 w y.toNat (by omega)
  rw [Int.toNat_of_nonneg hy.1] at this
  exact this.mono (by rintro e w' ⟨rfl, hk⟩; exact ⟨hk, by rw [hz]⟩)
theorem getD_at {α : Type} {l : List α} {i : Nat} {d : α} (h : i < l.length) : l.getD i d = l[i] := by simp [List.getD, h]

set_option maxRecDepth 100000 in
set_option maxHeartbeats 4000000 in
theorem text36 (w : World) (B : Nat) (v : Value) (m : MD) (hm : ModV B w v m) (hf : FitsP m) (hB : B ≤ w.heap.size) : Calls Tryz.prog 36 #[v] w fun e w' => Kept (fun _ => False) w w' ∧ e = .returned (.string (textM m)) := by
  obtain ⟨nb, no, nc, lb, lo, lc, tb, to_, tc, rb, ro, rc, rfl, hr⟩ := MRd.mk' hm hB hf.n0 (by rw [hf.l]; exact hf.n0) (by rw [hf.t]; exact hf.n0)
  obtain ⟨W0, hW0⟩ : ∃ W0, W0 = w.alloc (.cells #[.slice (some ⟨nb, no, none⟩) m.names.length nc, .slice (some ⟨lb, lo, none⟩) m.letters.length lc, .slice (some ⟨tb, to_, none⟩) m.tos.length tc] 30) := ⟨_, rfl⟩
  have k0 : Kept (fun _ => False) w W0 := by rw [hW0]; exact (Kept.refl _ _).alloc _
  have b0 : W0.heap[w.heap.size]? = some (.cells #[.slice (some ⟨nb, no, none⟩) m.names.length nc, .slice (some ⟨lb, lo, none⟩) m.letters.length lc, .slice (some ⟨tb, to_, none⟩) m.tos.length tc] 30 (0, 0)) := by rw [hW0]; exact alloc_blk _ _
  have HR : Hid (MRd W0 nb no nc lb lo lc tb to_ tc rb ro rc m) := hr.kept k0
  have HBX : Hid (∀ W, Kept (fun _ => False) W0 W → W.cell? ⟨w.heap.size, 0, none⟩ = some (.slice (some ⟨nb, no, none⟩) m.names.length nc) ∧ W.cell? ⟨w.heap.size, 1, none⟩ = some (.slice (some ⟨lb, lo, none⟩) m.letters.length lc) ∧ W.cell? ⟨w.heap.size, 2, none⟩ = some (.slice (some ⟨tb, to_, none⟩) m.tos.length tc)) := fun W hk =>
    ⟨(hk.cell (p := ⟨w.heap.size, 0, none⟩) (lt_of_cell (blk_cell b0 0)) (fun f => f)).trans (blk_cell b0 0), (hk.cell (p := ⟨w.heap.size, 1, none⟩) (lt_of_cell (blk_cell b0 1)) (fun f => f)).trans (blk_cell b0 1), (hk.cell (p := ⟨w.heap.size, 2, none⟩) (lt_of_cell (blk_cell b0 2)) (fun f => f)).trans (blk_cell b0 2)⟩
  have HF : Hid (FitsP m) := hf
  have HK0 : Hid (Kept (fun _ => False) w W0) := k0
  have hn12 := hf.n12
  clear hm hr hf k0 b0
  go_enter Tryz.func36, Tryz.ntmps36
  go_upto_region 1 with fail
  rw [← hW0]
  clear hW0
  go_wp2
  go_loopw [3, 4] (fun sv iv wr => ∃ k : Nat, k ≤ m.names.length ∧ iv = .int .i64 k ∧ sv = .string (textA m k) ∧ Kept (fun _ => False) W0 wr) (fun _ iv _ => m.names.length - (intOf iv).toNat)
  case atStart => exact ⟨0, Nat.zero_le _, rfl, rfl, Kept.refl _ _⟩
  case round =>
    obtain ⟨k, hk, rfl, rfl, hkr⟩ := hrel
    obtain ⟨x0, x1, x2⟩ := HBX.out wr hkr
    by_cases hlt : k < m.names.length
    · have hki : (k : Int) < (m.names.length : Int) := by omega
      have hll : k < m.letters.length := by rw [HF.out.l]; exact hlt
      have htl : k < m.tos.length := by rw [HF.out.t]; exact hlt
      have hki2 : (k : Int) < (m.letters.length : Int) := by omega
      have hki3 : (k : Int) < (m.tos.length : Int) := by omega
      have cn := HR.out.nm wr hkr k hlt
      have cl := HR.out.lt wr hkr k hll
      have hlr := HF.out.lt _ (List.getElem_mem hll)
      have sz := textA_size HF.out k
      have sn : (m.names[k]).size ≤ 6 := (nameB_size (HF.out.nm _ (List.getElem_mem hlt))).2
      have HHD : Hid (headA m k (textA m k) = textA m k ++ m.names[k] ++ sp ++ shownB (m.letters[k]).toNat ++ spgt) := by rw [Hid, headA, getD_at hlt, getD_at hll]
      have hsh := headA_size HF.out k (textA m k)
      have HTX : Hid (textA m (k + 1) = rowA m (headA m k (textA m k)) m.tos[k] ++ nl) := by rw [Hid, textA, getD_at htl]
      generalize hacc : textA m k = acc at *
      generalize hnk : m.names[k] = nk at *
      obtain ⟨z, hz⟩ : ∃ z, shownB (m.letters[k]).toNat = z := ⟨_, rfl⟩
      have szz : z.size ≤ 8 := by rw [← hz]; exact shownB_size _
      have a1 : ¬ 9223372036854775807 < acc.size + nk.size := by omega
      have a2 : ¬ 9223372036854775807 < acc.size + nk.size + 1 := by omega
      have a3 : ¬ 9223372036854775807 < acc.size + nk.size + 1 + z.size := by omega
      have a4 : ¬ 9223372036854775807 < acc.size + nk.size + 1 + z.size + 2 := by omega
      go_upto_region 5 with fail
      have U0 : ∀ U : KW wr, U.1.cell? ⟨w.heap.size, 0, none⟩ = some (.slice (some ⟨nb, no, none⟩) m.names.length nc) := fun U => U.cell x0
      have U1 : ∀ U : KW wr, U.1.cell? ⟨w.heap.size, 1, none⟩ = some (.slice (some ⟨lb, lo, none⟩) m.letters.length lc) := fun U => U.cell x1
      have U2 : ∀ U : KW wr, U.1.cell? ⟨nb, no + k, none⟩ = some (.string nk) := fun U => U.cell cn
      have U3 : ∀ U : KW wr, U.1.cell? ⟨lb, lo + k, none⟩ = some (.int .i64 m.letters[k]) := fun U => U.cell cl
      refine wp_region_quiet_kept (by kernel_rfl) (by kernel_rfl) ?_
      repeat (refine wpQuiet_step (fun K hK => ?_); go_simp; first | (refine hK _ ?_; clear hK K) | (apply Exists.intro; refine ⟨fun U => ?_, hK _ ?_⟩; (go_at_call 68; exact Calls.quiet_kept (shown68k _ _ hlr z hz)); clear hK K))
      refine wpQuiet_nil ?_
      intro w2 hw'
      have k2 : Kept (fun _ => False) wr w2 := by
        obtain ⟨U, rfl⟩ := hw'
        exact U.2
      have hkr2 := hkr.trans k2 (fun _ _ f => f)
      have HHD2 : Hid (headA m k acc = acc ++ nk ++ ⟨#[32]⟩ ++ z ++ ⟨#[32, 62]⟩) := by rw [Hid, HHD.out, hz]; rfl
      rw [← HHD2.out]
      clear hw' U0 U1 U2 U3 cn cl x0 x1 x2 k2 hkr a1 a2 a3 a4
      generalize hhd : headA m k acc = hd at *
      have hrne : m.tos[k] ≠ [] := HF.out.ne _ (List.getElem_mem htl)
      have hrl : (m.tos[k]).length ≤ 12 := by have := HF.out.row k; rwa [getD_at htl] at this
      go_wp2
      go_loopw [3, 5] (fun sv jv wr => ∃ j : Nat, j ≤ (m.tos[k]).length ∧ jv = .int .i64 j ∧ sv = .string (rowA m hd ((m.tos[k]).take j)) ∧ Kept (fun _ => False) W0 wr) (fun _ jv _ => (m.tos[k]).length - (intOf jv).toNat)
      case atStart => exact ⟨0, Nat.zero_le _, rfl, rfl, hkr2⟩
      case round =>
        obtain ⟨j, hj, rfl, rfl, hkr⟩ := hrel
        obtain ⟨x0, x1, x2⟩ := HBX.out wr hkr
        have ct := (HR.out.tr wr hkr k htl).1 hrne
        by_cases hjl : j < (m.tos[k]).length
        · have hji : (j : Int) < ((m.tos[k]).length : Int) := by omega
          have ce := HR.out.te wr hkr k htl j hjl
          have hrg := HF.out.rng _ (List.getElem_mem htl) _ (List.getElem_mem hjl)
          have HSN : Hid (rowA m hd ((m.tos[k]).take (j + 1)) = rowA m hd ((m.tos[k]).take j) ++ sp ++ toName m (m.tos[k])[j]) := by
            rw [Hid, List.take_add_one, List.getElem?_eq_getElem hjl]
            exact rowA_snoc m _ _ _
          have hsz := rowA_size m HF.out.toName ((m.tos[k]).take j) hd
          have hst := HF.out.toName (m.tos[k])[j]
          have htk : ((m.tos[k]).take j).length ≤ 12 := by rw [List.length_take]; omega
          generalize hac : rowA m hd ((m.tos[k]).take j) = ac at *
          obtain ⟨tn, htn⟩ : ∃ tn : Nat, (m.tos[k])[j] = (tn : Int) := ⟨((m.tos[k])[j]).toNat, by omega⟩
          rw [htn] at ce hrg hst HSN
          have htn2 : tn < m.names.length := by omega
          have cn := HR.out.nm wr hkr tn htn2
          have HTN : Hid (toName m (tn : Int) = m.names[tn]) := by rw [Hid, Go.Proofs.YtdbpdanocpfboabGreatDoor.toName, Int.toNat_natCast, getD_at htn2]
          rw [HTN.out] at hst HSN
          generalize hnn : m.names[tn] = nn at *
          have htni : (tn : Int) < (m.names.length : Int) := by omega
          have a1 : ¬ 9223372036854775807 < ac.size + 1 := by omega
          have a2 : ¬ 9223372036854775807 < ac.size + 1 + nn.size := by omega
          clear hrg htn
          go_upto_region 9 with fail
          have U0 : ∀ U : KW wr, U.1.cell? ⟨w.heap.size, 0, none⟩ = some (.slice (some ⟨nb, no, none⟩) m.names.length nc) := fun U => U.cell x0
          have U1 : ∀ U : KW wr, U.1.cell? ⟨w.heap.size, 2, none⟩ = some (.slice (some ⟨tb, to_, none⟩) m.tos.length tc) := fun U => U.cell x2
          have U2 : ∀ U : KW wr, U.1.cell? ⟨tb, to_ + k, none⟩ = some (.slice (some ⟨rb k, ro k, none⟩) (m.tos[k]).length (rc k)) := fun U => U.cell ct
          have U3 : ∀ U : KW wr, U.1.cell? ⟨rb k, ro k + j, none⟩ = some (.int .i64 (tn : Int)) := fun U => U.cell ce
          have U4 : ∀ U : KW wr, U.1.cell? ⟨nb, no + tn, none⟩ = some (.string nn) := fun U => U.cell cn
          refine wp_region_quiet_kept (by kernel_rfl) (by kernel_rfl) ?_
          repeat (refine wpQuiet_step (fun K hK => ?_); go_simp; first | (refine hK _ ?_; clear hK K))
          refine wpQuiet_nil ?_
          intro w3 hw'
          have k3 : Kept (fun _ => False) wr w3 := by
            obtain ⟨U, rfl⟩ := hw'
            exact U.2
          have hkr3 := hkr.trans k3 (fun _ _ f => f)
          clear hw' U0 U1 U2 U3 U4 cn ce ct x0 x1 x2 k3 hkr
          go_wp2
          go_roundw
          case rel => exact ⟨j + 1, by omega, by simp, by rw [HSN.out]; rfl, hkr3⟩
          case measure => simp [intOf]; omega
        · obtain rfl : j = (m.tos[k]).length := by omega
          rw [List.take_length]
          have hsz := rowA_size m HF.out.toName m.tos[k] hd
          have a1 : ¬ 9223372036854775807 < (rowA m hd m.tos[k]).size + 1 := by omega
          go_wp2
          go_roundw
          case rel => exact ⟨k + 1, by omega, by simp, by rw [HTX.out]; rfl, hkr⟩
          case measure => simp [intOf]; omega
    · obtain rfl : k = m.names.length := by omega
      go_wp2
      go_ret
      exact ⟨HK0.out.trans hkr (fun _ _ f => f), rfl⟩
end Go.Proofs.YtdbpdanocpfboabGreatDoor
