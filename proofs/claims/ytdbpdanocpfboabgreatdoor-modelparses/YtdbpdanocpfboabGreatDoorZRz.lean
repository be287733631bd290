import Derived.Test.YtdbpdanocpfboabGreatDoorZRj
/- The program's Parse. -/
namespace Go.Proofs.YtdbpdanocpfboabGreatDoor
open Go.RowKit

/-- a model that lies in blocks of its own from lo on -/
structure ModT (lo : Nat) (w : World) (v : Value) (m : MD) : Prop where
  ex : ∃ nv lv tv, v = .agg #[nv, lv, tv] ∧ LsT 9 lo w nv (m.names.map Value.string) ∧ LsT 3 lo w lv (m.letters.map (Value.int .i64)) ∧ ∃ rs : List Value, rs.length = m.tos.length ∧ LsT 23 lo w tv rs ∧ ∀ (i : Nat) (r : Value) (row : List Int), rs[i]? = some r → m.tos[i]? = some row → LsT 3 lo w r (row.map (Value.int .i64))
theorem ModT.modN {lo : Nat} {w : World} {v : Value} {m : MD} (h : ModT lo w v m) : ModN lo w v m := by
  obtain ⟨nv, lv, tv, e, h1, h2, rs, h3, h4, h5⟩ := h.ex
  exact ⟨nv, lv, tv, e, h1.lsn, h2.lsn, rs, h3, h4.lsn, fun i r row a b => (h5 i r row a b).lsn⟩
/-- what the program's Parse answers -/
def Post6 (w : World) (r : PR) (e : Ending) (w' : World) : Prop := Kept (fun _ => False) w w' ∧ match r with
  | .err x l => e = .returned (.tuple #[nilM, .int .i64 x, .int .i64 l])
  | .ok m => ∃ v, e = .returned (.tuple #[v, .int .i64 0, .int .i64 0]) ∧ ModT w.heap.size w' v m
theorem split25t (w : World) (s : ByteArray) (m : Int) (hs : s.size ≤ 1000) (hm : w.cell? ⟨0, 0, none⟩ = some (.int .i64 m)) : Calls Tryz.prog 25 #[.string s, .string ⟨#[10]⟩] w fun e w' => ∃ v, e = .returned v ∧ LsS (fun k => k < w'.heap.size ∧ TyB w' k 9) w' v ((cutL s 10).map Value.string) ∧ Kept (fun _ => False) w w' := by
  refine (Tryz.strings_Split s ⟨#[10]⟩ m w (by omega) hm (by decide)).mono ?_
  rintro e w' ⟨rfl, rfl⟩
  have e1 : Lib.splitB ⟨#[10]⟩ 0 (Lib.countB s ⟨#[10]⟩) s = cutL s 10 := split_cutL s 10
  have e2 : Lib.countB s ⟨#[10]⟩ + 1 = (cutL s 10).length := by
    rw [← e1, splitB_len]
  rw [e1, e2]
  have hl := cutL_len s 10
  refine ⟨_, rfl, ⟨_, _, by rw [List.length_map], by simp, by simp; omega, fun i x hx => ⟨w.heap.size, 0, rfl, ⟨by simp, _, alloc_blk _ _⟩, ?_⟩⟩, (Kept.refl _ _).alloc _⟩
  rw [Nat.zero_add, World.cell?_alloc_at (hn := rfl)]
  simpa using hx
theorem Post26.int {w0 : World} {M : Nat} {st : PSt} {k : Nat} {ws : List ByteArray} {gv : Value} {gs : List Value} {e : Ending} {w' : World} (h : Post26 w0 M st k ws gv gs e w') :
    ∃ z, e = .returned (.int .i64 z) ∧ ((z = 0 ∧ ∃ st', ((ws = [] ∧ st' = st) ∨ (ws ≠ [] ∧ lineE st.names ws = 0 ∧ st' = st.push k ws)) ∧ ∃ nv lv av bv rs, RQ 56 CD w0 M nv lv av bv st' rs w' ∧ LsS (SB nv w') w' gv gs) ∨ (z ≠ 0 ∧ ws ≠ [] ∧ lineE st.names ws = z ∧ Kept (fun _ => False) w0 w')) := by
  rcases h with ⟨h1, h2, h3⟩ | ⟨h1, h2, h3, h4⟩ | ⟨h1, h2, h3, h4⟩
  · exact ⟨0, h2, .inl ⟨rfl, st, .inl ⟨h1, rfl⟩, h3⟩⟩
  · exact ⟨_, h3, .inr ⟨h2, h1, rfl, h4⟩⟩
  · exact ⟨0, h3, .inl ⟨rfl, _, .inr ⟨h1, h2, rfl⟩, h4⟩⟩
theorem Post27.int {w0 : World} {M : Nat} {st : PSt} {e : Ending} {w' : World} (h : Post27 w0 M st e w') : ∃ z l, e = .returned (.tuple #[.int .i64 z, .int .i64 l]) ∧ Kept (fun _ => False) w0 w' ∧
    ((z = 6 ∧ ((st.names.length = 0 ∧ l = 0) ∨ (st.names.length ≠ 0 ∧ joinL st.names st.behind st.at_ = .inl l))) ∨
     (z = 0 ∧ l = 0 ∧ st.names.length ≠ 0 ∧ ∃ t, joinL st.names st.behind st.at_ = .inr t ∧ ∃ nv lv tv av bv, w'.heap[M]? = some (.cells #[nv, lv, tv, av, bv] 56 (0, 0)) ∧ LsT 9 w0.heap.size w' nv (st.names.map Value.string) ∧ LsT 3 w0.heap.size w' lv (st.letters.map (Value.int .i64)) ∧
      ∃ trs : List Value, trs.length = t.length ∧ LsT 23 w0.heap.size w' tv trs ∧ ∀ (j : Nat) (r : Value) (row : List Int), trs[j]? = some r → t[j]? = some row → LsT 3 w0.heap.size w' r (row.map (Value.int .i64)))) := by
  obtain ⟨hk, ⟨h1, h2⟩ | ⟨h1, l, h2, h3⟩ | ⟨h1, t, h2, h3, h4⟩⟩ := h
  · exact ⟨6, 0, h2, hk, .inl ⟨rfl, .inl ⟨h1, rfl⟩⟩⟩
  · exact ⟨6, l, h3, hk, .inl ⟨rfl, .inr ⟨h1, h2⟩⟩⟩
  · exact ⟨0, 0, h3, hk, .inr ⟨rfl, rfl, h1, t, h2, h4⟩⟩

set_option maxRecDepth 100000 in
set_option maxHeartbeats 8000000 in
theorem parse6 (w : World) (s : ByteArray) (mx : Int) (hmx : w.cell? ⟨0, 0, none⟩ = some (.int .i64 mx)) : Calls Tryz.prog 6 #[.string s] w (Post6 w (parseM s)) := by
  obtain ⟨w0, hw0⟩ : ∃ w0, w0 = w.alloc (.cells #[.slice none 0 0, .slice none 0 0, .slice none 0 0] 26) := ⟨_, rfl⟩
  have k0 : Kept (fun _ => False) w w0 := by rw [hw0]; exact (Kept.refl _ _).alloc _
  have q0 : w0.heap[w.heap.size]? = some (.cells #[.slice none 0 0, .slice none 0 0, .slice none 0 0] 26 (0, 0)) := by rw [hw0]; exact alloc_blk _ _
  have HRES : Hid (∀ W, Kept (fun _ => False) w0 W → W.heap[w.heap.size]? = some (.cells #[.slice none 0 0, .slice none 0 0, .slice none 0 0] 26 (0, 0))) := fun W hk => (hk.block _ (Array.getElem?_eq_some_iff.1 q0).1 (fun f => f)).trans q0
  have HK0 : Hid (Kept (fun _ => False) w w0) := k0
  have r0 : w0.cell? ⟨w.heap.size, 0, none⟩ = some (.slice none 0 0) := blk_cell q0 0
  have r1 : w0.cell? ⟨w.heap.size, 1, none⟩ = some (.slice none 0 0) := blk_cell q0 1
  have r2 : w0.cell? ⟨w.heap.size, 2, none⟩ = some (.slice none 0 0) := blk_cell q0 2
  have f0 := blk_frozen q0 0
  have f1 := blk_frozen q0 1
  have f2 := blk_frozen q0 2
  have hmx0 : w0.cell? ⟨0, 0, none⟩ = some (.int .i64 mx) := (k0.cell (p := ⟨0, 0, none⟩) (lt_of_cell hmx) (fun f => f)).trans hmx
  by_cases hs : 1000 < s.size
  · have HE : Hid (parseM s = .err 1 0) := by rw [Hid, parseM, if_pos hs]
    have hsi : (1000 : Int) < (s.size : Int) := by omega
    clear hs k0 q0 hmx0
    rw [HE.out]
    go_enter Tryz.func6, Tryz.ntmps6
    go_upto_region 1 with fail
    rw [← hw0]
    clear hw0
    go_wp2
    refine bodyPost_ret (v := .tuple #[nilM, .int .i64 1, .int .i64 0]) (by simp [results, Tryz.results6, go_sem, nilM, r0, r1, r2]) rfl ⟨?_, rfl⟩
    repeat (first | exact HK0.out | (refine Kept.setCell ?_ (fun hh => absurd hh (by simp)) _))
  · have hsi : ¬ (1000 : Int) < (s.size : Int) := by omega
    have hs2 : s.size ≤ 1000 := by omega
    have HPM : Hid (parseM s = match parseL (cutL s 10) 0 .zero with
      | .inl (e, l) => .err e l
      | .inr st => match joinL st.names st.behind st.at_ with
        | .inl l => .err 6 l
        | .inr t => if st.names.length = 0 then .err 6 0 else .ok ⟨st.names, st.letters, t⟩) := by rw [Hid, parseM, if_neg hs]; rfl
    have hlen := cutL_len s 10
    have HSZ : Hid (∀ x ∈ cutL s 10, x.size ≤ 1000) := fun x hx => Nat.le_trans (cutSt_size s 10 _ x hx) hs2
    clear hs
    obtain ⟨w1, hw1⟩ : ∃ w1, w1 = w0.alloc (.cells (CD (.slice none 0 0) (.slice none 0 0) (.slice none 0 0) (.slice none 0 0)) 56) := ⟨_, rfl⟩
    have k1 : Kept (fun _ => False) w0 w1 := by rw [hw1]; exact (Kept.refl _ _).alloc _
    have b1 : w1.heap[w0.heap.size]? = some (.cells (CD (.slice none 0 0) (.slice none 0 0) (.slice none 0 0) (.slice none 0 0)) 56 (0, 0)) := by rw [hw1]; exact alloc_blk _ _
    have HR1 : Hid (RQ 56 CD w0 w0.heap.size (.slice none 0 0) (.slice none 0 0) (.slice none 0 0) (.slice none 0 0) .zero [] w1) :=
      { kept := k1, mn := Nat.le_refl _, blk := b1, n := World.ownsRow_nil _ _ _ _, l := World.ownsRow_nil _ _ _ _, a := World.ownsRow_nil _ _ _ _, b := World.ownsRow_nil _ _ _ _, dis := fun _ e => (by cases e), len := rfl, rows := fun i r bs h => (by simp at h), ty := by decide }
    have hmx1 : w1.cell? ⟨0, 0, none⟩ = some (.int .i64 mx) := (k1.cell (p := ⟨0, 0, none⟩) (lt_of_cell hmx0) (fun f => f)).trans hmx0
    rw [CD] at hw1
    clear r0 r1 r2 f0 f1 f2 k0 q0 hmx hmx0 k1 b1
    go_enter Tryz.func6, Tryz.ntmps6
    go_upto_region 1 with fail
    rw [← hw0]
    clear hw0
    go_upto_region 4 with fail
    rw [← hw1]
    clear hw1
    generalize hls0 : cutL s 10 = ls at *
    go_wp2_with (go_at_call 25; refine (split25t w1 s mx hs2 hmx1).mono ?_; rw [hls0]; rintro e w2 ⟨lv, rfl, hls, k2⟩; obtain ⟨va, vc, hvf, _⟩ := (hls.ls (B := w2.heap.size) (fun _ e => e.1)).form; simp only [List.length_map] at hvf; subst hvf)
    have HV : Hid (LsS (SB (.slice none 0 0) w2) w2 (.slice va ls.length vc) (ls.map Value.string)) := hls.keep (fun k e => ⟨e.1, fun h => (by cases h), e.2⟩) (fun _ _ => rfl)
    have HR2 : Hid (RQ 56 CD w0 w0.heap.size (.slice none 0 0) (.slice none 0 0) (.slice none 0 0) (.slice none 0 0) .zero [] w2) := HR1.out.new k2
    clear hls k2 hmx1 HR1
    go_loopw [18] (fun iv wr => ∃ (k : Nat) (nv lv av bv : Value) (st : PSt) (rs : List Value), k ≤ ls.length ∧ iv = .int .i64 k ∧ parseL ls 0 .zero = parseL (ls.drop k) k st ∧ RQ 56 CD w0 w0.heap.size nv lv av bv st rs wr ∧ LsS (SB nv wr) wr (.slice va ls.length vc) (ls.map Value.string) ∧ st.Ok k) (fun iv _ => ls.length - (intOf iv).toNat)
    case atStart => exact ⟨0, _, _, _, _, _, _, Nat.zero_le _, rfl, rfl, HR2.out, HV.out, ⟨Nat.zero_le _, rfl, rfl, rfl, fun _ h => by cases h⟩⟩
    case round =>
      obtain ⟨k, nv, lv, av, bv, st, rs, hk, rfl, hpl, hq, hv, hok⟩ := hrel
      have HQ : Hid (RQ 56 CD w0 w0.heap.size nv lv av bv st rs wr) := hq
      have HPL : Hid (parseL ls 0 .zero = parseL (ls.drop k) k st) := hpl
      have HOK : Hid (st.Ok k) := hok
      have HVr : Hid (LsS (SB nv wr) wr (.slice va ls.length vc) (ls.map Value.string)) := hv
      clear hq hpl hok hv
      by_cases hlt : k < ls.length
      · have hki : (k : Int) < (ls.length : Int) := by omega
        obtain ⟨b, off, rfl, hb, hc⟩ := HVr.out.cell (i := k) (x := .string ls[k]) (by simp [hlt])
        have hxs : (ls[k]).size ≤ 1000 := HSZ.out _ (List.getElem_mem hlt)
        have HST : Hid _ := parseL_step (st := st) (List.getElem?_eq_getElem hlt)
        generalize hx : ls[k] = x at *
        go_upto_region 8 with (go_at_call 26; refine (read26 w0 wr w0.heap.size nv lv av bv st rs k x HQ.out hxs HOK.out (by omega) _ _ HVr.out).mono ?_; intro e w3 hp; obtain ⟨z, rfl, hz⟩ := hp.int; clear hp)
        have HZ : Hid _ := hz
        clear hz hc hb
        by_cases hz0 : z = 0
        · subst hz0
          go_wp2
          go_roundw
          case rel =>
            rcases HZ.out with ⟨_, st', hst, nv', lv', av', bv', rs', hq', hv'⟩ | ⟨h, _⟩
            · have hwl := wordsL_len x
              refine ⟨k + 1, nv', lv', av', bv', st', rs', by omega, by simp, ?_, hq', hv', ?_⟩
              · rcases hst with ⟨h1, h2⟩ | ⟨h1, h2, h3⟩
                · rw [h2]
                  exact HPL.out.trans (HST.out.trans (if_pos h1))
                · rw [h3]
                  exact HPL.out.trans (HST.out.trans ((if_neg h1).trans (if_pos h2)))
              · rcases hst with ⟨h1, h2⟩ | ⟨h1, h2, h3⟩
                · rw [h2]
                  exact ⟨by have := HOK.out.n; omega, HOK.out.l, HOK.out.a, HOK.out.b, HOK.out.r⟩
                · rw [h3]
                  have hn := HOK.out.n
                  refine ⟨by simp [PSt.push]; omega, by simp [PSt.push, HOK.out.l], by simp [PSt.push, HOK.out.a], by simp [PSt.push, HOK.out.b], fun bs hbs => ?_⟩
                  rcases List.mem_append.1 hbs with h | h
                  · exact HOK.out.r bs h
                  · simp at h
                    subst h
                    simp
                    omega
            · exact absurd rfl h
          case measure => simp [intOf]; omega
        · have HE : Hid (parseM s = .err z ((k : Int) + 1) ∧ Kept (fun _ => False) w0 w3) := by
            rcases HZ.out with ⟨h, _⟩ | ⟨_, h1, h2, h3⟩
            · exact absurd h hz0
            · refine ⟨?_, h3⟩
              rw [HPM.out, HPL.out, HST.out, if_neg h1, if_neg (by rw [h2]; exact hz0), h2]
          have hne : (z == 0) = false := by simpa using hz0
          have q3 := HRES.out w3 HE.out.2
          have r0 : w3.cell? ⟨w.heap.size, 0, none⟩ = some (.slice none 0 0) := blk_cell q3 0
          have r1 : w3.cell? ⟨w.heap.size, 1, none⟩ = some (.slice none 0 0) := blk_cell q3 1
          have r2 : w3.cell? ⟨w.heap.size, 2, none⟩ = some (.slice none 0 0) := blk_cell q3 2
          have f0 := blk_frozen q3 0
          have f1 := blk_frozen q3 1
          have f2 := blk_frozen q3 2
          have HKX : Hid (Kept (fun _ => False) w w3) := HK0.out.trans HE.out.2 (fun _ _ f => f)
          clear hz0 q3
          go_wp2
          rw [HE.out.1]
          refine bodyPost_ret (v := .tuple #[nilM, .int .i64 z, .int .i64 ((k : Int) + 1)]) (by simp [results, Tryz.results6, go_sem, nilM, r0, r1, r2]) rfl ⟨?_, rfl⟩
          repeat (first | exact HKX.out | (refine Kept.setCell ?_ (fun hh => absurd hh (by simp)) _))
      · obtain rfl : k = ls.length := by omega
        have HPJ : Hid (parseM s = match joinL st.names st.behind st.at_ with
          | .inl l => .err 6 l
          | .inr t => if st.names.length = 0 then .err 6 0 else .ok ⟨st.names, st.letters, t⟩) := by
          have : parseL ls 0 .zero = .inr st := by rw [HPL.out, List.drop_length, parseL]
          rw [Hid, HPM.out, this]
        have HJ0 : Hid (st.names.length = 0 → ∃ l, joinL st.names st.behind st.at_ = .inr l) := fun h => by
          have : st.behind = [] := List.length_eq_zero_iff.1 (by rw [HOK.out.b, h])
          exact ⟨[], by rw [this]; simp [joinL]⟩
        go_upto_region 12 with (go_at_call 27; refine (join27 w0 wr w0.heap.size nv lv av bv st rs ls.length HQ.out HOK.out (by omega)).mono ?_; intro e w3 hp; obtain ⟨z, l, rfl, k3, hz⟩ := hp.int; clear hp)
        have HZ : Hid _ := hz
        have q3 := HRES.out w3 k3
        have r0 : w3.cell? ⟨w.heap.size, 0, none⟩ = some (.slice none 0 0) := blk_cell q3 0
        have r1 : w3.cell? ⟨w.heap.size, 1, none⟩ = some (.slice none 0 0) := blk_cell q3 1
        have r2 : w3.cell? ⟨w.heap.size, 2, none⟩ = some (.slice none 0 0) := blk_cell q3 2
        have f0 := blk_frozen q3 0
        have f1 := blk_frozen q3 1
        have f2 := blk_frozen q3 2
        have HQ3 : Hid (w3.heap[w.heap.size]? = some (.cells #[.slice none 0 0, .slice none 0 0, .slice none 0 0] 26 (0, 0))) := q3
        have HKX : Hid (Kept (fun _ => False) w w3) := HK0.out.trans k3 (fun _ _ f => f)
        have hz03 := k3.size
        have hzw := HK0.out.size
        clear hz q3 k3
        by_cases hz0 : z = 0
        · subst hz0
          have hz2 := HZ.out
          obtain ⟨h, _⟩ | ⟨_, rfl, hn0, t, ht, nv', lv', tv', av', bv', hM, t1, t2, trs, t3, t4, t5⟩ := hz2
          · exact absurd h (by decide)
          have HE : Hid (parseM s = .ok ⟨st.names, st.letters, t⟩) := by rw [Hid, HPJ.out, ht]; simp only; rw [if_neg hn0]
          obtain ⟨na, nc, hnv, _⟩ := t1.lsn.ls.form
          obtain ⟨la, lc, hlv, _⟩ := t2.lsn.ls.form
          obtain ⟨ta, tc, htv, _⟩ := t4.lsn.ls.form
          simp only [List.length_map] at hnv hlv
          subst hnv hlv htv
          have c0 : w3.cell? ⟨w0.heap.size, 0, none⟩ = some (.slice na st.names.length nc) := blk_cell hM 0
          have c1 : w3.cell? ⟨w0.heap.size, 1, none⟩ = some (.slice la st.letters.length lc) := blk_cell hM 1
          have c2 : w3.cell? ⟨w0.heap.size, 2, none⟩ = some (.slice ta trs.length tc) := blk_cell hM 2
          have hMl := (Array.getElem?_eq_some_iff.1 hM).1
          have hwl0 : w.heap.size < w0.heap.size := by have := (Array.getElem?_eq_some_iff.1 (HRES.out w0 (Kept.refl _ _))).1; exact this
          have H1 : Hid _ := t1
          have H2 : Hid _ := t2
          have H4 : Hid _ := t4
          have H5 : Hid _ := t5
          have H3 : Hid (trs.length = t.length) := t3
          clear t1 t2 t3 t4 t5 hM
          go_wp2
          rw [HE.out]
          obtain ⟨W7, hW7⟩ : ∃ W7, W7 = ((w3.setCell ⟨w.heap.size, 0, none⟩ (.slice na st.names.length nc)).setCell ⟨w.heap.size, 1, none⟩ (.slice la st.letters.length lc)).setCell ⟨w.heap.size, 2, none⟩ (.slice ta trs.length tc) := ⟨_, rfl⟩
          have kR : Kept (fun k => k = w.heap.size) w3 W7 := by
            rw [hW7]
            exact ((Kept.setCell (S := fun k => k = w.heap.size) (Kept.refl _ _) (fun _ => rfl) _).setCell (fun _ => rfl) _).setCell (fun _ => rfl) _
          have hkeep : ∀ {t : TypeId} {v : Value} {cs : List Value}, LsT t w0.heap.size w3 v cs → LsT t w.heap.size W7 v cs := fun h => LsS.keep h (fun k e => ⟨by have := e.1; omega, Nat.lt_of_lt_of_le e.2.1 kR.size, e.2.2.of (kR.block k e.2.1 (by have := e.1; omega))⟩) (fun k e => kR.block k e.2.1 (by have := e.1; omega))
          refine bodyPost_ret (v := .tuple #[.agg #[.slice na st.names.length nc, .slice la st.letters.length lc, .slice ta trs.length tc], .int .i64 0, .int .i64 0]) (by simp [results, Tryz.results6, go_sem, r0, r1, r2]) rfl ⟨?_, _, rfl, ⟨_, _, _, rfl, ?_, ?_, trs, H3.out, ?_, ?_⟩⟩
          · repeat (first | exact HKX.out | (refine Kept.setCell ?_ (fun hh => absurd hh (by simp)) _))
          · rw [← hW7]; exact hkeep H1.out
          · rw [← hW7]; exact hkeep H2.out
          · rw [← hW7]; exact hkeep H4.out
          · rw [← hW7]; exact fun i r row a b => hkeep (H5.out i r row a b)
        · have hz6 : z = 6 := by
            rcases HZ.out with ⟨h, _⟩ | ⟨h, _⟩
            · exact h
            · exact absurd h hz0
          subst hz6
          have HE : Hid (parseM s = .err 6 l) := by
            rcases HZ.out with ⟨_, ⟨h1, h2⟩ | ⟨h1, h2⟩⟩ | ⟨h, _⟩
            · obtain ⟨l', hl'⟩ := HJ0.out h1
              rw [Hid, HPJ.out, hl']
              simp only
              rw [if_pos h1, h2]
            · rw [Hid, HPJ.out, h2]
            · exact absurd h hz0
          clear hz0
          go_wp2
          rw [HE.out]
          refine bodyPost_ret (v := .tuple #[nilM, .int .i64 6, .int .i64 l]) (by simp [results, Tryz.results6, go_sem, nilM, r0, r1, r2]) rfl ⟨?_, rfl⟩
          repeat (first | exact HKX.out | (refine Kept.setCell ?_ (fun hh => absurd hh (by simp)) _))
end Go.Proofs.YtdbpdanocpfboabGreatDoor
