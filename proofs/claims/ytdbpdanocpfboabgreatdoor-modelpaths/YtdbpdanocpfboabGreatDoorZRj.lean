import Derived.Test.YtdbpdanocpfboabGreatDoorZRe
import Derived.Test.YtdbpdanocpfboabGreatDoorZPe
/- The program's join. -/
namespace Go.Proofs.YtdbpdanocpfboabGreatDoor
open Go.RowKit

/-- what join leaves -/
def Post27 (w0 : World) (M : Nat) (st : PSt) (e : Ending) (w' : World) : Prop := Kept (fun _ => False) w0 w' ∧
  ((st.names.length = 0 ∧ e = .returned (.tuple #[.int .i64 6, .int .i64 0])) ∨
  (st.names.length ≠ 0 ∧ ∃ l, joinL st.names st.behind st.at_ = .inl l ∧ e = .returned (.tuple #[.int .i64 6, .int .i64 l])) ∨
  (st.names.length ≠ 0 ∧ ∃ t, joinL st.names st.behind st.at_ = .inr t ∧ e = .returned (.tuple #[.int .i64 0, .int .i64 0]) ∧
    ∃ nv lv tv av bv, w'.heap[M]? = some (.cells #[nv, lv, tv, av, bv] 56 (0, 0)) ∧ LsT 9 w0.heap.size w' nv (st.names.map Value.string) ∧ LsT 3 w0.heap.size w' lv (st.letters.map (Value.int .i64)) ∧
      ∃ trs : List Value, trs.length = t.length ∧ LsT 23 w0.heap.size w' tv trs ∧ ∀ (j : Nat) (r : Value) (row : List Int), trs[j]? = some r → t[j]? = some row → LsT 3 w0.heap.size w' r (row.map (Value.int .i64))))

set_option maxRecDepth 100000 in
set_option maxHeartbeats 8000000 in
theorem join27 (w0 w : World) (M : Nat) (nv lv av bv : Value) (st : PSt) (rs : List Value) (k : Nat) (hq : RQ 56 CD w0 M nv lv av bv st rs w) (hok : st.Ok k) (hk : k ≤ 1001) :
    Calls Tryz.prog 27 #[.pointer (some ⟨M, 0, none⟩)] w (Post27 w0 M st) := by
  have HQ : Hid (RQ 56 CD w0 M nv lv av bv st rs w) := hq
  have HOK : Hid (st.Ok k) := hok
  clear hq hok
  have hnl := HOK.out.n
  have hal : st.at_.length ≤ 1001 := by rw [HOK.out.a]; omega
  have hbl : st.behind.length ≤ 1001 := by rw [HOK.out.b]; omega
  have hrl : rs.length = st.behind.length := HQ.out.len
  obtain ⟨ba, bc, hbv, _⟩ := (own_ls HQ.out.b (by omega)).form
  rw [hrl] at hbv
  subst hbv
  have HB : Hid (LsV w.heap.size w (.slice ba st.behind.length bc) rs) := own_ls HQ.out.b (by omega)
  obtain ⟨aa, ac, hav, _⟩ := (own_ls HQ.out.a (by simp; omega)).form
  simp only [List.length_map] at hav
  subst hav
  obtain ⟨na, nc, hnv, _⟩ := (own_ls HQ.out.n (by simp; omega)).form
  simp only [List.length_map] at hnv
  subst hnv
  have HNV : Hid (StrsV w.heap.size w (.slice na st.names.length nc) st.names) := own_ls HQ.out.n (by simp; omega)
  have HMx : Hid (w.heap[M]? = some (.cells #[.slice na st.names.length nc, lv, .slice none 0 0, .slice aa st.at_.length ac, .slice ba st.behind.length bc] 56 (0, 0))) := HQ.out.blk
  obtain ⟨i3, hi3, hy0, hy1, hy2⟩ := info_parts info3
  obtain ⟨i23, hi23, hx0, hx1, hx2⟩ := info_parts info23
  have c0 : w.cell? ⟨M, 0, none⟩ = some (.slice na st.names.length nc) := blk_cell HMx.out 0
  have c4 : w.cell? ⟨M, 4, none⟩ = some (.slice ba st.behind.length bc) := blk_cell HMx.out 4
  go_enter Tryz.func27, Tryz.ntmps27
  by_cases hn0 : st.names.length = 0
  · have HN : Hid (st.names.length = 0) := hn0
    have hn0b : ((st.names.length : Int) == 0) = true := by rw [hn0]; rfl
    clear hn0
    go_wp2
    refine bodyPost_ret (v := .tuple #[.int .i64 6, .int .i64 0]) (by simp [results, Tryz.results27, go_sem]) rfl ⟨HQ.out.kept, .inl ⟨HN.out, rfl⟩⟩
  have HN : Hid (st.names.length ≠ 0) := hn0
  have hn0b : ((st.names.length : Int) == 0) = false := beq_eq_false_iff_ne.2 (by omega)
  clear hn0
  go_wp2
  clear c0 c4
  go_loopw [22] (fun iv W => ∃ (i : Nat) (tv : Value) (trs : List Value) (done : List (List Int)), i ≤ st.behind.length ∧ iv = .int .i64 i ∧ joinL st.names st.behind st.at_ = joinE done (joinL st.names (st.behind.drop i) (st.at_.drop i)) ∧ done.length = i ∧ trs.length = i ∧ Kept (fun k => k = M) w W ∧ W.heap[M]? = some (.cells #[.slice na st.names.length nc, lv, tv, .slice aa st.at_.length ac, .slice ba st.behind.length bc] 56 (0, 0)) ∧ W.ownsRow w.heap.size 23 1 tv i trs ∧
    ∀ (j : Nat) (r : Value) (row : List Int), trs[j]? = some r → done[j]? = some row → LsS (fun k => w0.heap.size ≤ k ∧ k < W.heap.size ∧ TyB W k 3) W r (row.map (Value.int .i64))) (fun iv _ => st.behind.length - (intOf iv).toNat)
  case atStart => exact ⟨0, .slice none 0 0, [], [], Nat.zero_le _, rfl, by simp [joinE_nil], rfl, rfl, Kept.refl _ _, HMx.out, World.ownsRow_nil _ _ _ _, fun j r row h => by simp at h⟩
  case round =>
    obtain ⟨i, tv, trs, done, hi0, rfl, hj, hdl, htl, hkW, hMW, htv, hrows⟩ := hrel
    have HJ : Hid _ := hj
    have HT : Hid (wr.ownsRow w.heap.size 23 1 tv i trs) := htv
    have HRO : Hid (∀ (j : Nat) (r : Value) (row : List Int), trs[j]? = some r → done[j]? = some row → LsS (fun k => w0.heap.size ≤ k ∧ k < wr.heap.size ∧ TyB wr k 3) wr r (row.map (Value.int .i64))) := hrows
    have HKW : Hid (Kept (fun k => k = M) w wr) := hkW
    have HMW : Hid (wr.heap[M]? = some (.cells #[.slice na st.names.length nc, lv, tv, .slice aa st.at_.length ac, .slice ba st.behind.length bc] 56 (0, 0))) := hMW
    clear hj htv hrows hkW hMW
    by_cases hlt : i < st.behind.length
    · have hli : (i : Int) < (st.behind.length : Int) := by omega
      have hai : i < st.at_.length := by rw [HOK.out.a, ← HOK.out.b]; exact hlt
      have hri : i < rs.length := by omega
      obtain ⟨bs, hbs⟩ : ∃ bs, st.behind[i]? = some bs := ⟨_, List.getElem?_eq_getElem hlt⟩
      have hbsl : bs.length ≤ 1001 := HOK.out.r bs (List.mem_of_getElem? hbs)
      have HSTEP : Hid _ := joinL_step (names := st.names) hbs (List.getElem?_eq_getElem hai)
      have LAT : Hid (∀ W', Kept (fun _ => False) wr W' → (∃ rb ro, ba = some ⟨rb, ro, none⟩ ∧ W'.cell? ⟨rb, ro + i, none⟩ = some rs[i]) ∧ LsV w.heap.size W' rs[i] (bs.map Value.string) ∧ StrsV W'.heap.size W' (.slice na st.names.length nc) st.names ∧ (∃ ab ao, aa = some ⟨ab, ao, none⟩ ∧ W'.cell? ⟨ab, ao + i, none⟩ = some (.int .i64 st.at_[i]))) := by
        intro W' hk'
        have hkM : Kept (fun k => k = M) w W' := HKW.out.trans hk' (fun _ _ f => f.elim)
        obtain ⟨l1, l2, l3, l4, l5⟩ := HQ.out.later hkM
        refine ⟨?_, l5 i rs[i] bs (List.getElem?_eq_getElem hri) hbs, own_ls l1 (by simp; omega), ?_⟩
        · obtain ⟨rb, ro, e, _, h⟩ := (own_ls l4 (by omega)).cell (List.getElem?_eq_getElem hri)
          exact ⟨rb, ro, e, h⟩
        · obtain ⟨ab, ao, e, _, h⟩ := (own_lss l3 (by simp; omega)).cell (i := i) (x := .int .i64 st.at_[i]) (by simp [hai])
          exact ⟨ab, ao, e, h⟩
      obtain ⟨⟨rb, ro, rfl, hcc⟩, hrs, _, ab, ao, rfl, hcd⟩ := LAT.out wr (Kept.refl _ _)
      clear hcc hcd
      obtain ⟨ra, rc, hrf, _⟩ := hrs.form
      simp only [List.length_map] at hrf
      clear hrs
      have LAT2 : Hid (∀ W', Kept (fun _ => False) wr W' → W'.cell? ⟨rb, ro + i, none⟩ = some (.slice ra bs.length rc) ∧ StrsV w.heap.size W' (.slice ra bs.length rc) bs ∧ StrsV W'.heap.size W' (.slice na st.names.length nc) st.names ∧ W'.cell? ⟨ab, ao + i, none⟩ = some (.int .i64 st.at_[i]) ∧ W'.cell? ⟨M, 0, none⟩ = some (.slice na st.names.length nc) ∧ W'.cell? ⟨M, 3, none⟩ = some (.slice (some ⟨ab, ao, none⟩) st.at_.length ac)) := by
        intro W' hk'
        obtain ⟨⟨rb', ro', e1, h1⟩, h2, h3, ab', ao', e2, h4⟩ := LAT.out W' hk'
        cases e1
        cases e2
        rw [hrf] at h1 h2
        exact ⟨h1, h2, h3, h4, (hk'.cell (p := ⟨M, 0, none⟩) (lt_of_cell (blk_cell HMW.out 0)) (fun f => f)).trans (blk_cell HMW.out 0), (hk'.cell (p := ⟨M, 3, none⟩) (lt_of_cell (blk_cell HMW.out 3)) (fun f => f)).trans (blk_cell HMW.out 3)⟩
      have hXW := HKW.out.size
      obtain ⟨c1, _⟩ := LAT2.out wr (Kept.refl _ _)
      clear LAT hrf
      generalize hWo : wr = Wo at *
      clear hWo
      go_wp2
      clear c1
      go_loopw [6, 29] (fun tov jv W => ∃ (j : Nat), j ≤ bs.length ∧ jv = .int .i64 j ∧ knownB st.names (bs.take j) = true ∧ W.ownsRow Wo.heap.size 3 1 tov j (((bs.take j).map (findZ st.names)).map (Value.int .i64)) ∧ Kept (fun _ => False) Wo W) (fun _ jv _ => bs.length - (intOf jv).toNat)
      case atStart => exact ⟨0, Nat.zero_le _, rfl, rfl, World.ownsRow_nil _ _ _ _, Kept.refl _ _⟩
      case round =>
        obtain ⟨j, hj, rfl, hkn, hto, hkr⟩ := hrel
        obtain ⟨c1, hbV, hnV, c4, c5, c6⟩ := LAT2.out wr hkr
        have HTO : Hid (wr.ownsRow Wo.heap.size 3 1 u6 j (((bs.take j).map (findZ st.names)).map (Value.int .i64))) := hto
        have HKN : Hid (knownB st.names (bs.take j) = true) := hkn
        have HNV' : Hid (StrsV wr.heap.size wr (.slice na st.names.length nc) st.names) := hnV
        clear hto hkn hnV
        have hzr := hkr.size
        by_cases hjl : j < bs.length
        · have hji : (j : Int) < (bs.length : Int) := by omega
          obtain ⟨sb, so, rfl, _, c2⟩ := StrsV.cell hbV hjl
          clear hbV
          obtain ⟨z, hz⟩ : ∃ z, findZ st.names bs[j] = z := ⟨_, rfl⟩
          go_upto_region 11 with (go_at_call 54; refine (index54 wr wr.heap.size _ st.names bs[j] HNV'.out).mono ?_; rw [hz]; rintro e w5 ⟨rfl, hw5⟩; rw [hw5]; clear hw5)
          clear c1 c2
          by_cases hm : bs[j] ∈ st.names
          · have hge : ¬ z < 0 := by have := findZ_pos.2 hm; omega
            have HKN2 : Hid (knownB st.names (bs.take (j + 1)) = true) := knownB_take hjl HKN.out hm
            clear hm c4 c5 c6
            go_wp2_with (at_builtin; go_must (refine wpList_append_own_at _ rfl _ _ 23 rfl Wo.heap.size 3 i3 _ 1 8 Tryz.underlying23 hi3 hy0 hy1 hy2 rfl (by decide) u6 j _ rfl (World.ownsRow.alloc HTO.out _) ⟨wr.heap.size, 0, none⟩ 1 1 [.int .i64 z] rfl rfl (cell_one_new _ _ _) (by intro y hy; simp at hy; rcases hy with rfl; rfl) (by unfold maxLen; omega) (by omega) (by simp; omega) ?_); intro tv6 w6 hown6 hgrow6 hnil6 hloc6)
            go_roundw
            case rel =>
              have hg6 : Kept (fun b => inRow u6 b) wr w6 := ((Kept.refl _ _).alloc _).grown hgrow6 (fun k _ e => e)
              refine ⟨j + 1, by omega, by simp, HKN2.out, ?_, hkr.trans hg6 (fun b hb e => ?_)⟩
              · have he : (bs.take (j + 1)).map (findZ st.names) = (bs.take j).map (findZ st.names) ++ [z] := by
                  rw [List.take_add_one, List.getElem?_eq_getElem hjl, List.map_append]
                  simp [hz]
                rw [he, List.map_append]
                exact hown6
              · have := (ownsRow_lt HTO.out e).2
                omega
            case measure => simp [intOf]; omega
          · have hge : z < 0 := by
              by_cases h : z < 0
              · exact h
              · exact absurd (findZ_pos.1 (by omega)) hm
            have HE : Hid (joinL st.names st.behind st.at_ = .inl st.at_[i]) := by
              rw [Hid, HJ.out, HSTEP.out, if_neg (by rw [knownB_no hjl hm]; simp)]
              rfl
            have hai2 : (i : Int) < (st.at_.length : Int) := by omega
            have HKW5 : Hid (Kept (fun _ => False) w0 wr) := HQ.out.kept.trans (HKW.out.trans hkr (fun _ _ f => f.elim)) (fun k hk e => by have := HQ.out.mn; omega)
            clear hm c5
            go_upto_region 12 with fail
            have U0 : ∀ U : KW wr, U.1.cell? ⟨M, 3, none⟩ = some (.slice (some ⟨ab, ao, none⟩) st.at_.length ac) := fun U => U.cell c6
            have U1 : ∀ U : KW wr, U.1.cell? ⟨ab, ao + i, none⟩ = some (.int .i64 st.at_[i]) := fun U => U.cell c4
            refine wp_region_quiet_kept (by kernel_rfl) (by kernel_rfl) ?_
            repeat (refine wpQuiet_step (fun K hK => ?_); go_simp; first | (refine hK _ ?_; clear hK K))
            refine wpQuiet_nil ?_
            intro w5 hw'
            have k5 : Kept (fun _ => False) wr w5 := by
              obtain ⟨U, rfl⟩ := hw'
              exact U.2
            clear hw' U0 U1
            go_wp2
            refine bodyPost_ret (v := .tuple #[.int .i64 6, .int .i64 st.at_[i]]) (by simp [results, Tryz.results27, go_sem]) rfl ⟨HKW5.out.trans k5 (fun _ _ f => f), .inr (.inl ⟨HN.out, _, HE.out, rfl⟩)⟩
        · obtain rfl : j = bs.length := by omega
          have HNEW : Hid (joinL st.names st.behind st.at_ = joinE (done ++ [bs.map (findZ st.names)]) (joinL st.names (st.behind.drop (i + 1)) (st.at_.drop (i + 1)))) := by
            have hkb : knownB st.names bs = true := by have := HKN.out; rw [List.take_length] at this; exact this
            rw [Hid, HJ.out, HSTEP.out, if_pos hkb, joinE_step]
          rw [List.take_length] at HTO
          have c2 : wr.cell? ⟨M, 2, none⟩ = some tv := (hkr.cell (p := ⟨M, 2, none⟩) (lt_of_cell (blk_cell HMW.out 2)) (fun f => f)).trans (blk_cell HMW.out 2)
          have HTr : Hid (wr.ownsRow w.heap.size 23 1 tv i trs) := own_new HT.out hkr
          have HMr : Hid (wr.heap[M]? = some (.cells #[.slice na st.names.length nc, lv, tv, .slice (some ⟨ab, ao, none⟩) st.at_.length ac, .slice (some ⟨rb, ro, none⟩) st.behind.length bc] 56 (0, 0))) := (hkr.block _ (Array.getElem?_eq_some_iff.1 HMW.out).1 (fun f => f)).trans HMW.out
          clear c4 c5 c6 c1 hbV
          obtain ⟨ua, uc, hu6, _⟩ := (own_ls HTO.out (by simp; omega)).form
          simp only [List.length_map] at hu6
          subst hu6
          go_wp2_with (at_builtin; go_must (refine wpList_append_own_at _ rfl _ _ 24 rfl w.heap.size 23 i23 _ 1 24 Tryz.underlying24 hi23 hx0 hx1 hx2 rfl (by decide) tv i _ rfl (World.ownsRow.alloc HTr.out _) ⟨wr.heap.size, 0, none⟩ 1 1 [.slice ua bs.length uc] rfl rfl (cell_one_new _ _ _) (by intro y hy; simp at hy; rcases hy with rfl; rfl) (by unfold maxLen; omega) (by omega) (by simp; omega) ?_); intro tv6 w6 hown6 hgrow6 hnil6 hloc6; obtain ⟨g6, cap6, rfl⟩ := ownsRow_form hown6; have hg6 : Kept (fun b => inRow tv b) wr w6 := ((Kept.refl _ _).alloc _).grown hgrow6 (fun k _ e => e); have hM6 := (hg6.block _ (Array.getElem?_eq_some_iff.1 HMr.out).1 (row_blk HTr.out HMr.out (by decide))).trans HMr.out; have d0 : w6.cell? ⟨M, 2, none⟩ = some tv := blk_cell hM6 2; have d1 := blk_frozen hM6 2)
          go_roundw
          case rel =>
            have hz6 := hg6.size
            obtain ⟨w7, hw7⟩ : ∃ w7, w7 = w6.setCell ⟨M, 2, none⟩ (.slice (some ⟨g6, 0, none⟩) (i + 1) cap6) := ⟨_, rfl⟩
            have hs7 : Kept (fun k => k = M) w6 w7 := by rw [hw7]; exact Kept.setCell (S := fun k => k = M) (Kept.refl _ _) (fun _ => rfl) _
            have hM7 : w7.heap[M]? = some (.cells #[.slice na st.names.length nc, lv, .slice (some ⟨g6, 0, none⟩) (i + 1) cap6, .slice (some ⟨ab, ao, none⟩) st.at_.length ac, .slice (some ⟨rb, ro, none⟩) st.behind.length bc] 56 (0, 0)) := by rw [hw7]; exact heap_setCell_same _ _ _ _ _ _ hM6
            have htv7 := own_keptM hown6 hs7 (row_blk hown6 hM6 (by decide))
            have hbl : ∀ k, k < wr.heap.size → TyB wr k 3 → w7.heap[k]? = wr.heap[k]? := fun k hk ht => (hs7.block k (Nat.lt_of_lt_of_le hk hz6) (ht.ne HMr.out (by decide))).trans (hg6.block k hk (fun e => by
              obtain ⟨c, hc⟩ := row_ty HTr.out e
              obtain ⟨c', hc'⟩ := ht
              rw [hc] at hc'
              injection hc' with hc'
              injection hc' with _ hc'
              exact absurd hc' (by decide)))
            have hz7 := hs7.size
            refine ⟨i + 1, .slice (some ⟨g6, 0, none⟩) (i + 1) cap6, trs ++ [.slice ua bs.length uc], done ++ [bs.map (findZ st.names)], by omega, by simp, HNEW.out, by simp [hdl], by simp [htl], ?_, ?_, ?_, ?_⟩
            · rw [← hw7]
              exact ((HKW.out.trans hkr (fun _ _ f => f.elim)).trans hg6 (fun k hk e => absurd (ownsRow_lt HTr.out e).2 (by omega))).trans hs7 (fun _ _ e => e)
            · rw [← hw7]; exact hM7
            · rw [← hw7]; exact htv7
            · rw [← hw7]
              intro j' r row h1 h2
              rw [List.getElem?_append] at h1 h2
              by_cases hj' : j' < trs.length
              · rw [if_pos hj'] at h1
                rw [if_pos (by omega)] at h2
                refine (HRO.out j' r row h1 h2).keep (fun k e => ⟨e.1, by have := e.2.1; omega, ?_⟩) (fun k e => ?_)
                · have hk' : wr.heap[k]? = Wo.heap[k]? := hkr.block k e.2.1 (fun f => f)
                  have ht := e.2.2.of hk'
                  exact ht.of (hbl k (by have := e.2.1; omega) ht)
                · have hk' : wr.heap[k]? = Wo.heap[k]? := hkr.block k e.2.1 (fun f => f)
                  exact (hbl k (by have := e.2.1; omega) (e.2.2.of hk')).trans hk'
              · rw [if_neg hj'] at h1
                rw [if_neg (by omega)] at h2
                have e0 : j' - trs.length = 0 := by
                  by_cases hz : j' - trs.length = 0
                  · exact hz
                  · rw [List.getElem?_eq_none (by simp; omega)] at h1; cases h1
                have e1 : j' - done.length = 0 := by omega
                rw [e0] at h1
                rw [e1] at h2
                simp at h1 h2
                subst h1 h2
                refine (own_lss HTO.out (by simp; omega)).keep (fun k e => ⟨?_, ?_, ?_⟩) (fun k e => hbl k (ownsRow_lt HTO.out e).1 (row_ty HTO.out e))
                · have h8 := (ownsRow_lt HTO.out e).2
                  have h9 := HQ.out.kept.size
                  omega
                · have := (ownsRow_lt HTO.out e).1; omega
                · exact TyB.of (w := wr) (row_ty HTO.out e) (hbl k (ownsRow_lt HTO.out e).1 (row_ty HTO.out e))
          case measure => simp [intOf]; omega
    · obtain rfl : i = st.behind.length := by omega
      have HJE : Hid (joinL st.names st.behind st.at_ = .inr done) := by
        rw [Hid, HJ.out, List.drop_length]
        simp [joinL, joinE]
      go_wp2
      obtain ⟨l1, l2, _, _, _⟩ := HQ.out.later HKW.out
      have hzw := HQ.out.kept.size
      have hll : st.letters.length ≤ 1001 := by rw [HOK.out.l]; omega
      refine bodyPost_ret (v := .tuple #[.int .i64 0, .int .i64 0]) (by simp [results, Tryz.results27, go_sem]) rfl ⟨HQ.out.kept.trans HKW.out (fun k hk e => by have := HQ.out.mn; omega), .inr (.inr ⟨HN.out, done, HJE.out, rfl, _, _, _, _, _, HMW.out, own_lst l1 (by simp; omega) (Nat.le_refl _), own_lst l2 (by simp; omega) (Nat.le_refl _), trs, by omega, own_lst HT.out (by omega) hzw, fun j r row h1 h2 => HRO.out j r row h1 h2⟩)⟩
end Go.Proofs.YtdbpdanocpfboabGreatDoor
