import Derived.Test.YtdbpdanocpfboabGreatDoorZBun04
/- The document's Parse. -/
namespace Go.Proofs.YtdbpdanocpfboabGreatDoor
open Go.RowKit

theorem extract_size (s : ByteArray) (i j : Nat) : (s.extract i j).size ≤ s.size := by
  rw [ByteArray.size_extract]
  omega
theorem cutSt_size (s : ByteArray) (c : Nat) : ∀ k, ∀ x ∈ (cutSt s c k).2, x.size ≤ s.size
  | 0 => by simp [cutSt]
  | k + 1 => by
    intro x hx
    unfold cutSt at hx
    split at hx
    · rcases List.mem_append.1 hx with h | h
      · exact cutSt_size s c k x h
      · simp at h
        subst h
        exact extract_size _ _ _
    · exact cutSt_size s c k x hx
theorem wordsL_size (s : ByteArray) : ∀ x ∈ wordsL s, x.size ≤ s.size := fun x hx => cutSt_size s 32 _ x (List.mem_filter.1 hx).1
theorem wordsL_len (s : ByteArray) : (wordsL s).length ≤ s.size + 1 := Nat.le_trans (List.length_filter_le _ _) (cutL_len s 32)
theorem alloc_blk (w : World) (o : Obj) : (w.alloc o).heap[w.heap.size]? = some o := (MapKept.heap_alloc w o).1
theorem blk_cell {w : World} {M : Nat} {cs : Array Value} {t : TypeId} {f : Nat × Nat} (h : w.heap[M]? = some (.cells cs t f)) (i : Nat) : w.cell? ⟨M, i, none⟩ = cs[i]? := by
  simp [World.cell?, h]
theorem blk_frozen {w : World} {M : Nat} {cs : Array Value} {t : TypeId} (h : w.heap[M]? = some (.cells cs t (0, 0))) (i : Nat) : w.frozen? ⟨M, i, none⟩ = false := by
  simp [World.frozen?, h]
/-- how long the lists are behind k lines -/
structure PSt.Ok (st : PSt) (k : Nat) : Prop where
  n : st.names.length ≤ k
  l : st.letters.length = st.names.length
  a : st.at_.length = st.names.length
  b : st.behind.length = st.names.length
  r : ∀ bs ∈ st.behind, bs.length ≤ 1001
theorem parseL_step {ls : List ByteArray} {k : Nat} {st : PSt} {x : ByteArray} (hx : ls[k]? = some x) : parseL (ls.drop k) k st = if wordsL x = [] then parseL (ls.drop (k + 1)) (k + 1) st else if lineE st.names (wordsL x) = 0 then parseL (ls.drop (k + 1)) (k + 1) (st.push k (wordsL x)) else .inl (lineE st.names (wordsL x), (k : Int) + 1) := by
  obtain ⟨hk, rfl⟩ := List.getElem?_eq_some_iff.1 hx
  rw [List.drop_eq_getElem_cons hk, parseL]
theorem formB_len {ws : List ByteArray} (h : formB ws = true) : 4 ≤ ws.length := by
  simp only [formB, Bool.and_eq_true, decide_eq_true_eq] at h
  exact h.1
theorem lineE_form {names ws : List ByteArray} (h : lineE names ws = 0) : formB ws = true := by
  unfold lineE at h
  split at h
  · cases h
  · rename_i h'
    simpa using h'
theorem joinL_step {names : List ByteArray} {bs : List (List ByteArray)} {at_ : List Int} {i : Nat} {b : List ByteArray} {a : Int} (hb : bs[i]? = some b) (ha : at_[i]? = some a) : joinL names (bs.drop i) (at_.drop i) = if knownB names b = true then consR (b.map (findZ names)) (joinL names (bs.drop (i + 1)) (at_.drop (i + 1))) else .inl a := by
  obtain ⟨h1, rfl⟩ := List.getElem?_eq_some_iff.1 hb
  obtain ⟨h2, rfl⟩ := List.getElem?_eq_some_iff.1 ha
  rw [List.drop_eq_getElem_cons h1, List.drop_eq_getElem_cons h2, joinL]
/-- what joining comes to, with some rows done -/
def joinE (done : List (List Int)) : Int ⊕ List (List Int) → Int ⊕ List (List Int)
  | .inl x => .inl x
  | .inr t => .inr (done ++ t)
theorem joinE_nil (r : Int ⊕ List (List Int)) : joinE [] r = r := by cases r <;> rfl
theorem joinE_step {done : List (List Int)} {row : List Int} (r : Int ⊕ List (List Int)) : joinE done (consR row r) = joinE (done ++ [row]) r := by
  cases r with
  | inl x => rfl
  | inr t => simp [joinE, consR]
theorem knownB_take {names bs : List ByteArray} {j : Nat} (hj : j < bs.length) (h : knownB names (bs.take j) = true) (hm : bs[j] ∈ names) : knownB names (bs.take (j + 1)) = true := by
  rw [knownB, List.take_add_one, List.getElem?_eq_getElem hj, List.all_append]
  rw [knownB] at h
  rw [h]
  simp [memB_iff.2 hm]
theorem knownB_no {names bs : List ByteArray} {j : Nat} (hj : j < bs.length) (hm : bs[j] ∉ names) : knownB names bs = false := by
  rw [knownB, List.all_eq_false]
  exact ⟨bs[j], List.getElem_mem hj, fun h => hm (memB_iff.1 h)⟩
def CR (nv lv _av _bv : Value) : Array Value := #[nv, lv, .slice none 0 0]

/-- a model to be read: names, letters, lists of numbers -/
def RowsV (B : Nat) (w : World) (v : Value) (rows : List (List Int)) : Prop := ∃ rs : List Value, rs.length = rows.length ∧ LsV B w v rs ∧ ∀ (i : Nat) (r : Value) (row : List Int), rs[i]? = some r → rows[i]? = some row → IntsV B w r row
structure ModV (B : Nat) (w : World) (v : Value) (m : MD) : Prop where
  ex : ∃ nv lv tv, v = .agg #[nv, lv, tv] ∧ StrsV B w nv m.names ∧ IntsV B w lv m.letters ∧ RowsV B w tv m.tos

/-- a list that lies in blocks from lo on -/
def LsN (lo : Nat) (w : World) (v : Value) (cs : List Value) : Prop := LsS (fun k => lo ≤ k ∧ k < w.heap.size) w v cs
theorem LsN.ls {lo : Nat} {w : World} {v : Value} {cs : List Value} (h : LsN lo w v cs) : LsV w.heap.size w v cs := LsS.ls h (fun _ e => e.2)
theorem own_lsn {w : World} {base n : Nat} {e : TypeId} {v : Value} {xs : List Value} (h : w.ownsRow base e 1 v n xs) (hx : xs.length ≤ 17592186044416) {lo : Nat} (hl : lo ≤ base) : LsN lo w v xs :=
  (own_lss h hx).keep (fun _ e => ⟨Nat.le_trans hl (ownsRow_lt h e).2, (ownsRow_lt h e).1⟩) (fun _ _ => rfl)
theorem LsN.keep {lo : Nat} {w w' : World} {v : Value} {cs : List Value} (h : LsN lo w v cs) (hz : w.heap.size ≤ w'.heap.size) (hb : ∀ k, lo ≤ k → k < w.heap.size → w'.heap[k]? = w.heap[k]?) : LsN lo w' v cs :=
  LsS.keep h (fun _ e => ⟨e.1, Nat.lt_of_lt_of_le e.2 hz⟩) (fun k e => hb k e.1 e.2)
theorem LsN.nil (lo : Nat) (w : World) : LsN lo w (.slice none 0 0) [] := ⟨none, 0, rfl, Nat.zero_le _, by simp, fun i x h => by simp at h⟩
/-- a model that lies in blocks from lo on -/
structure ModN (lo : Nat) (w : World) (v : Value) (m : MD) : Prop where
  ex : ∃ nv lv tv, v = .agg #[nv, lv, tv] ∧ LsN lo w nv (m.names.map Value.string) ∧ LsN lo w lv (m.letters.map (Value.int .i64)) ∧ ∃ rs : List Value, rs.length = m.tos.length ∧ LsN lo w tv rs ∧ ∀ (i : Nat) (r : Value) (row : List Int), rs[i]? = some r → m.tos[i]? = some row → LsN lo w r (row.map (Value.int .i64))
theorem ModN.modV {lo : Nat} {w : World} {v : Value} {m : MD} (h : ModN lo w v m) : ModV w.heap.size w v m := by
  obtain ⟨nv, lv, tv, e, h1, h2, rs, h3, h4, h5⟩ := h.ex
  exact ⟨nv, lv, tv, e, h1.ls, h2.ls.ints, rs, h3, h4.ls, fun i r row a b => (h5 i r row a b).ls.ints⟩
theorem ModN.keep {lo : Nat} {w w' : World} {v : Value} {m : MD} (h : ModN lo w v m) (hz : w.heap.size ≤ w'.heap.size) (hb : ∀ k, lo ≤ k → k < w.heap.size → w'.heap[k]? = w.heap[k]?) : ModN lo w' v m := by
  obtain ⟨nv, lv, tv, e, h1, h2, rs, h3, h4, h5⟩ := h.ex
  exact ⟨nv, lv, tv, e, h1.keep hz hb, h2.keep hz hb, rs, h3, h4.keep hz hb, fun i r row a b => (h5 i r row a b).keep hz hb⟩

def nilM : Value := .agg #[.slice none 0 0, .slice none 0 0, .slice none 0 0]
/-- what the document's Parse answers -/
def Post7 (w : World) (r : PR) (e : Ending) (w' : World) : Prop := Kept (fun _ => False) w w' ∧ match r with
  | .err x l => e = .returned (.tuple #[nilM, .int .i64 x, .int .i64 l])
  | .ok m => ∃ v, e = .returned (.tuple #[v, .int .i64 0, .int .i64 0]) ∧ ModN w.heap.size w' v m

set_option maxRecDepth 100000 in
set_option maxHeartbeats 8000000 in
theorem parse7 (w : World) (s : ByteArray) : Calls Tryz.prog 7 #[.string s] w (Post7 w (parseM s)) := by
  by_cases hs : 1000 < s.size
  · have HE : Hid (parseM s = .err 1 0) := by rw [Hid, parseM, if_pos hs]
    have hsi : (1000 : Int) < (s.size : Int) := by omega
    clear hs
    rw [HE.out]
    go_enter Tryz.func7, Tryz.ntmps7
    go_wp2
    refine bodyPost_ret (v := .tuple #[nilM, .int .i64 1, .int .i64 0]) (by simp [results, Tryz.results7, go_sem, nilM]) rfl ⟨?_, rfl⟩
    repeat (first | exact Kept.refl _ _ | apply Kept.alloc)
  · have hsi : ¬ (1000 : Int) < (s.size : Int) := by omega
    have hs2 : s.size ≤ 1000 := by omega
    have HPM : Hid (parseM s = match parseL (cutL s 10) 0 .zero with
      | .inl (e, l) => .err e l
      | .inr st => match joinL st.names st.behind st.at_ with
        | .inl l => .err 6 l
        | .inr t => if st.names.length = 0 then .err 6 0 else .ok ⟨st.names, st.letters, t⟩) := by rw [Hid, parseM, if_neg hs]; rfl
    have hlen := cutL_len s 10
    have HSZ : Hid (∀ x ∈ cutL s 10, x.size ≤ 1000) := fun x hx => Nat.le_trans (cutSt_size s 10 _ x hx) hs2
    clear hs
    obtain ⟨W0, hW0⟩ : ∃ W0, W0 = w.alloc (.cells #[.slice none 0 0, .slice none 0 0, .slice none 0 0] 30) := ⟨_, rfl⟩
    have k0 : Kept (fun _ => False) w W0 := by rw [hW0]; exact (Kept.refl _ _).alloc _
    have q0 : W0.heap[w.heap.size]? = some (.cells #[.slice none 0 0, .slice none 0 0, .slice none 0 0] 30 (0, 0)) := by rw [hW0]; exact alloc_blk _ _
    go_enter Tryz.func7, Tryz.ntmps7
    go_upto_region 3 with fail
    rw [← hW0]
    clear hW0
    go_upto_region 4 with (go_at_call 28; go_must (refine (cut28 _ s 10 hs2).mono ?_); rintro e w1 ⟨v, rfl, hr1, k1⟩)
    generalize hls : cutL s 10 = ls at *
    have hv0 : StrsV w1.heap.size w1 v ls := own_ls hr1 (by simp; omega)
    obtain ⟨va, vc, rfl, _⟩ := hv0.form
    have HV : Hid (StrsV w1.heap.size w1 (.slice va ls.length vc) ls) := hv0
    have q1 : w1.heap[w.heap.size]? = some (.cells #[.slice none 0 0, .slice none 0 0, .slice none 0 0] 30 (0, 0)) := (k1.block _ (Array.getElem?_eq_some_iff.1 q0).1 (fun f => f)).trans q0
    have hRl : w.heap.size < w1.heap.size := (Array.getElem?_eq_some_iff.1 q1).1
    have HK1 : Hid (Kept (fun _ => False) w w1) := k0.trans k1 (fun _ _ f => f)
    clear hr1 hv0 k1 k0 q0
    obtain ⟨w2, hw2⟩ : ∃ w2, w2 = w1.alloc (.cells #[.slice none 0 0, .slice none 0 0, .slice none 0 0] 30) := ⟨_, rfl⟩
    have hk2 : Kept (fun _ => False) w1 w2 := by rw [hw2]; exact (Kept.refl _ _).alloc _
    have b2 : w2.heap[w1.heap.size]? = some (.cells #[.slice none 0 0, .slice none 0 0, .slice none 0 0] 30 (0, 0)) := by rw [hw2]; exact alloc_blk _ _
    have HR : Hid (RQ 30 CR w1 w1.heap.size (.slice none 0 0) (.slice none 0 0) (.slice none 0 0) (.slice none 0 0) .zero [] w2) :=
      { kept := hk2, mn := Nat.le_refl _, blk := b2, n := World.ownsRow_nil _ _ _ _, l := World.ownsRow_nil _ _ _ _, a := World.ownsRow_nil _ _ _ _, b := World.ownsRow_nil _ _ _ _, dis := fun _ e => (by cases e), len := rfl, rows := fun i r bs h => (by simp at h), ty := by decide }
    go_upto_region 7 with fail
    rw [← hw2]
    clear hw2 hk2 b2
    go_wp2
    go_loopw [7, 8, 9] (fun av bv i wr => ∃ (k : Nat) (nv lv : Value) (st : PSt) (rs : List Value), k ≤ ls.length ∧ i = .int .i64 k ∧ parseL ls 0 .zero = parseL (ls.drop k) k st ∧ RQ 30 CR w1 w1.heap.size nv lv av bv st rs wr ∧ st.Ok k) (fun _ _ i _ => ls.length - (intOf i).toNat)
    case atStart => exact ⟨0, _, _, _, _, Nat.zero_le _, rfl, rfl, HR.out, ⟨Nat.zero_le _, rfl, rfl, rfl, fun _ h => by cases h⟩⟩
    case round =>
      obtain ⟨k, nv, lv, st, rs, hk, rfl, hpl, hq, hok⟩ := hrel
      have HQ : Hid (RQ 30 CR w1 w1.heap.size nv lv u7 u8 st rs wr) := hq
      have HPL : Hid (parseL ls 0 .zero = parseL (ls.drop k) k st) := hpl
      have HOK : Hid (st.Ok k) := hok
      clear hq hpl hok
      by_cases hlt : k < ls.length
      · have hki : (k : Int) < (ls.length : Int) := by omega
        obtain ⟨b, off, rfl, hb, hc⟩ := StrsV.cell (HV.out.kept HQ.out.kept (Nat.le_refl _)) hlt
        have hxs : (ls[k]).size ≤ 1000 := HSZ.out _ (List.getElem_mem hlt)
        have HST := parseL_step (st := st) (List.getElem?_eq_getElem hlt)
        generalize hx : ls[k] = x at *
        have hwl := wordsL_len x
        have HWS : Hid (∀ y ∈ wordsL x, y.size ≤ 1000) := fun y hy => Nat.le_trans (wordsL_size x y hy) hxs
        have HST2 : Hid _ := HST
        clear HST
        go_upto_region 11 with (go_at_call 29; go_must (refine (words29 _ x hxs).mono ?_); rintro e w3 ⟨wv, rfl, hr3, k3⟩)
        generalize hws : wordsL x = ws at *
        have hwv : StrsV w3.heap.size w3 wv ws := own_ls hr3 (by simp; omega)
        obtain ⟨wa, wcp, rfl, _⟩ := hwv.form
        have HWV : Hid (StrsV w3.heap.size w3 (.slice wa ws.length wcp) ws) := hwv
        have HWR : Hid (w3.ownsRow wr.heap.size 9 1 (.slice wa ws.length wcp) ws.length (ws.map Value.string)) := hr3
        have HQ3 : Hid (RQ 30 CR w1 w1.heap.size nv lv u7 u8 st rs w3) := HQ.out.new k3
        have hsz3 := k3.size
        have HWL3 : Hid (LsS (SB nv w3) w3 (.slice wa ws.length wcp) (ws.map Value.string)) := HQ.out.rowOwn hr3 (by simp; omega)
        clear hwv hr3 hc
        by_cases hw0 : ws = []
        · subst hw0
          have HS : Hid (parseL ls 0 .zero = parseL (ls.drop (k + 1)) (k + 1) st) := HPL.out.trans (HST2.out.trans (if_pos rfl))
          go_wp2
          go_roundw
          case rel => exact ⟨k + 1, nv, lv, st, rs, by omega, by simp, HS.out, HQ3.out, ⟨by have := HOK.out.n; omega, HOK.out.l, HOK.out.a, HOK.out.b, HOK.out.r⟩⟩
          case measure => simp [intOf]; omega
        · have hwp : 0 < ws.length := List.length_pos_iff.2 hw0
          have hwb : ((ws.length : Int) == 0) = false := by simp; omega
          have HS0 : Hid (parseL ls 0 .zero = if lineE st.names ws = 0 then parseL (ls.drop (k + 1)) (k + 1) (st.push k ws) else .inl (lineE st.names ws, (k : Int) + 1)) := HPL.out.trans (HST2.out.trans (if_neg hw0))
          have c0 : w3.cell? ⟨w1.heap.size, 0, none⟩ = some nv := blk_cell HQ3.out.blk 0
          have c1 : w3.cell? ⟨w1.heap.size, 1, none⟩ = some lv := blk_cell HQ3.out.blk 1
          have c2 : w3.cell? ⟨w1.heap.size, 2, none⟩ = some (.slice none 0 0) := blk_cell HQ3.out.blk 2
          go_upto_region 12 with fail
          go_upto_region 13 with (go_at_call 30; go_must (refine (line30 w3 w3.heap.size nv lv _ _ st.names ws (own_ls HQ3.out.n (by have := HOK.out.n; simp; omega)) HWV.out (Nat.le_refl _) (by omega) HWS.out).mono ?_); rintro e w4 ⟨rfl, k4⟩)
          have HQ4 : Hid (RQ 30 CR w1 w1.heap.size nv lv u7 u8 st rs w4) := HQ3.out.new k4
          have HWV4 : Hid (StrsV w3.heap.size w4 (.slice wa ws.length wcp) ws) := HWV.out.kept k4 (Nat.le_refl _)
          have hsz4 := k4.size
          clear c0 c1 c2
          by_cases hl0 : lineE st.names ws = 0
          · have HS : Hid (parseL ls 0 .zero = parseL (ls.drop (k + 1)) (k + 1) (st.push k ws)) := HS0.out.trans (if_pos hl0)
            have hw4 : 4 ≤ ws.length := formB_len (lineE_form hl0)
            rw [hl0]
            clear hl0
            obtain ⟨wb, wo, rfl, hwb4, hc0⟩ := StrsV.cell HWV4.out (i := 0) (by omega)
            have HWC : Hid (∀ wq, Kept (fun _ => False) w4 wq → ∀ i (hi : i < ws.length), wq.cell? ⟨wb, wo + i, none⟩ = some (.string ws[i])) := by
              intro wq hkq i hi
              obtain ⟨b', off', e, _, h⟩ := StrsV.cell (HWV4.out.kept hkq hsz4) hi
              cases e
              exact h
            have hc1 := HWC.out w4 (Kept.refl _ _) 1 (by omega)
            have hL1 : (1 : Int) < (ws.length : Int) := by omega
            have hs1 : (ws[1]).size ≤ 1000 := HWS.out _ (List.getElem_mem (by omega))
            go_upto_region 15 with fail
            go_upto_region 16 with (go_at_call 31; go_must (refine (letters31 w4 ws[1] (by omega)).mono ?_); rintro e w5 ⟨rfl, k5⟩)
            have HQ5 : Hid (RQ 30 CR w1 w1.heap.size nv lv u7 u8 st rs w5) := HQ4.out.new k5
            have HWL5 : Hid (LsS (SB nv w5) w5 (.slice (some ⟨wb, wo, none⟩) ws.length wcp) (ws.map Value.string)) := rowNew k5 (rowNew k4 HWL3.out)
            have c0 : w5.cell? ⟨w1.heap.size, 0, none⟩ = some nv := blk_cell HQ5.out.blk 0
            have fz0 := blk_frozen HQ5.out.blk 0
            have hcc : w5.cell? ⟨wb, wo, none⟩ = some (.string ws[0]) := HWC.out w5 k5 0 (by omega)
            have hL0 : (0 : Int) < (ws.length : Int) := by omega
            have hL00 : 0 < ws.length := by omega
            obtain ⟨i0, hi, hz0, hz1, hz2⟩ := info_parts info9
            have hnn := HOK.out.n
            have hz5 := HQ5.out.kept.size
            have c0a : ∀ o, (w5.alloc o).cell? ⟨w1.heap.size, 0, none⟩ = some nv := fun o => (((Kept.refl (fun _ => False) _).alloc o).cell (p := ⟨w1.heap.size, 0, none⟩) (lt_of_cell c0) (fun f => f)).trans c0
            clear hc0 hc1
            go_cut [12] (fun v12 wd => v12 = .int .i64 (lettersZ ws[1]) ∧ ∃ nv', RQ 30 CR w1 w1.heap.size nv' lv u7 u8 { st with names := st.names ++ [ws[0]] } rs wd ∧ LsS (SB nv' wd) wd (.slice (some ⟨wb, wo, none⟩) ws.length wcp) (ws.map Value.string))
            case first =>
              go_region_law
                (refine step_append_own rfl (.tmp 52) (.tmp 56) 22 rfl w1.heap.size 9 i0 _ 1 16 Tryz.underlying22 hi hz0 hz1 hz2 rfl (by decide) nv st.names.length _ (by simp [Act.eval]) (World.ownsRow.alloc HQ5.out.n _) ⟨w5.heap.size, 0, none⟩ 1 1 [.string ws[0]] (by simp [Act.eval]) rfl (cell_one_new _ _ _) (by intro u hu; simp at hu; rcases hu with rfl; rfl) (by unfold maxLen; omega) (by omega) (by simp; omega) ?_
                 intro nv' w6 hown6 hgrow6 hloc6
                 obtain ⟨g6, cap6, rfl⟩ := ownsRow_form hown6
                 have hg6 : Kept (fun b => inRow nv b) w5 w6 := ((Kept.refl _ _).alloc _).drew.grown hgrow6 (fun k _ e => e)
                 have hM6 := HQ5.out.notM6 (row_blk HQ5.out.n HQ5.out.blk (by decide)) hg6
                 have d0 : w6.cell? ⟨w1.heap.size, 0, none⟩ = some nv := blk_cell hM6 0
                 have d1 := blk_frozen hM6 0)
              all_goals
                go_wp2_with fail
                go_meet
                case rel =>
                  have hs7 : Kept (fun k => k = w1.heap.size) w6 (w6.setCell ⟨w1.heap.size, 0, none⟩ (.slice (some ⟨g6, 0, none⟩) (st.names.length + 1) cap6)) := Kept.setCell (S := fun k => k = w1.heap.size) (Kept.refl _ _) (fun _ => rfl) _
                  refine ⟨rfl, _, HQ5.out.name (N := w5.heap.size + 1) hg6 (by omega) hown6 (by simpa using hloc6) hs7 (heap_setCell_same _ _ _ _ _ _ hM6), HQ5.out.rowsM (N := w5.heap.size + 1) (fun k e => e.2.1) hg6 hs7 (by omega) (by simpa using hloc6) HWL5.out⟩
            case rest =>
              obtain ⟨rfl, nv', hq7, hwl7⟩ := hcut
              have HQ7 : Hid (RQ 30 CR w1 w1.heap.size nv' lv u7 u8 { st with names := st.names ++ [ws[0]] } rs wc) := hq7
              have HW7 : Hid (LsS (SB nv' wc) wc (.slice (some ⟨wb, wo, none⟩) ws.length wcp) (ws.map Value.string)) := hwl7
              clear hq7 hwl7 c0 c0a fz0 hcc
              obtain ⟨i3, hi3, hy0, hy1, hy2⟩ := info_parts info3
              obtain ⟨i22, hi22, hx0, hx1, hx2⟩ := info_parts info22
              have e1 : wc.cell? ⟨w1.heap.size, 1, none⟩ = some lv := blk_cell HQ7.out.blk 1
              have hll : st.letters.length ≤ k := by rw [HOK.out.l]; omega
              have hal : st.at_.length ≤ k := by rw [HOK.out.a]; omega
              have hbl : st.behind.length ≤ k := by rw [HOK.out.b]; omega
              have hz7 := HQ7.out.kept.size
              generalize hlz : lettersZ ws[1] = lz at *
              go_upto_region 17 with fail
              go_upto_region 18 with (at_builtin; go_must (refine wpList_append_own_at _ rfl _ _ 23 rfl w1.heap.size 3 i3 _ 1 8 Tryz.underlying23 hi3 hy0 hy1 hy2 rfl (by decide) lv st.letters.length _ rfl (World.ownsRow.alloc HQ7.out.l _) ⟨wc.heap.size, 0, none⟩ 1 1 [.int .i64 lz] rfl rfl (cell_one_new _ _ _) (by intro y hy; simp at hy; rcases hy with rfl; rfl) (by unfold maxLen; omega) (by omega) (by simp; omega) ?_); intro lv' w6 hown6 hgrow6 hnil6 hloc6; obtain ⟨g6, cap6, rfl⟩ := ownsRow_form hown6; have hg6 : Kept (fun b => inRow lv b) wc w6 := ((Kept.refl _ _).alloc _).grown hgrow6 (fun k _ e => e); have hM6 := HQ7.out.notM6 (row_blk HQ7.out.l HQ7.out.blk (by decide)) hg6; have d0 : w6.cell? ⟨w1.heap.size, 1, none⟩ = some lv := blk_cell hM6 1; have d1 := blk_frozen hM6 1)
              obtain ⟨w8, hw8⟩ : ∃ w8, w8 = w6.setCell ⟨w1.heap.size, 1, none⟩ (.slice (some ⟨g6, 0, none⟩) (st.letters.length + 1) cap6) := ⟨_, rfl⟩
              have hs8 : Kept (fun k => k = w1.heap.size) w6 w8 := by rw [hw8]; exact Kept.setCell (S := fun k => k = w1.heap.size) (Kept.refl _ _) (fun _ => rfl) _
              have hM8 : w8.heap[w1.heap.size]? = some (.cells (CR nv' (.slice (some ⟨g6, 0, none⟩) (st.letters.length + 1) cap6) u7 u8) 30 (0, 0)) := by rw [hw8]; exact heap_setCell_same _ _ _ _ _ _ hM6
              have HQ8 : Hid (RQ 30 CR w1 w1.heap.size nv' (.slice (some ⟨g6, 0, none⟩) (st.letters.length + 1) cap6) u7 u8 { st with names := st.names ++ [ws[0]], letters := st.letters ++ [lz] } rs w8) := HQ7.out.letter (N := wc.heap.size + 1) hg6 (by omega) hown6 (by simpa using hloc6) hs8 hM8
              have HW8 : Hid (LsS (SB nv' w8) w8 (.slice (some ⟨wb, wo, none⟩) ws.length wcp) (ws.map Value.string)) := HQ7.out.rowsM (N := wc.heap.size + 1) (fun k e e' => by obtain ⟨c, hc⟩ := row_ty HQ7.out.l e'; obtain ⟨c', hc'⟩ := e.2.2; rw [hc] at hc'; injection hc' with hc'; injection hc' with _ hc'; exact absurd hc' (by decide)) hg6 hs8 (by omega) (.inl rfl) HW7.out
              rw [← hw8]
              generalize hlv8 : Value.slice (some ⟨g6, 0, none⟩) (st.letters.length + 1) cap6 = lv8 at *
              have hz8 := HQ8.out.kept.size
              clear hw8 hlv8 hs8 hM8 hM6 d0 d1 hown6 hgrow6 hloc6 hnil6 hg6 e1
              go_upto_region 19 with (at_builtin; go_must (refine wpList_append_own_at _ rfl _ _ 23 rfl w1.heap.size 3 i3 _ 1 8 Tryz.underlying23 hi3 hy0 hy1 hy2 rfl (by decide) u7 st.at_.length _ rfl (World.ownsRow.alloc HQ8.out.a _) ⟨w8.heap.size, 0, none⟩ 1 1 [.int .i64 ((k : Int) + 1)] rfl rfl (cell_one_new _ _ _) (by intro y hy; simp at hy; rcases hy with rfl; rfl) (by unfold maxLen; omega) (by omega) (by simp; omega) ?_); intro av' w9 hown9 hgrow9 hnil9 hloc9; obtain ⟨g9, cap9, rfl⟩ := ownsRow_form hown9; have hg9 : Kept (fun b => inRow u7 b) w8 w9 := ((Kept.refl _ _).alloc _).grown hgrow9 (fun k _ e => e))
              have hM9 := HQ8.out.notM6 (row_blk HQ8.out.a HQ8.out.blk (by decide)) hg9
              have HQ9 : Hid (RQ 30 CR w1 w1.heap.size nv' lv8 (.slice (some ⟨g9, 0, none⟩) (st.at_.length + 1) cap9) u8 { st with names := st.names ++ [ws[0]], letters := st.letters ++ [lz], at_ := st.at_ ++ [(k : Int) + 1] } rs w9) := HQ8.out.at_ (N := w8.heap.size + 1) hg9 (by omega) hown9 (by simpa using hloc9) (Kept.refl _ _) hM9
              have HW9 : Hid (LsS (SB nv' w9) w9 (.slice (some ⟨wb, wo, none⟩) ws.length wcp) (ws.map Value.string)) := HQ8.out.rowsM (N := w8.heap.size + 1) (fun k e e' => by obtain ⟨c, hc⟩ := row_ty HQ8.out.a e'; obtain ⟨c', hc'⟩ := e.2.2; rw [hc] at hc'; injection hc' with hc'; injection hc' with _ hc'; exact absurd hc' (by decide)) hg9 (Kept.refl _ _) (by omega) (.inl rfl) HW8.out
              have HSUB : Hid (LsS (SB nv' w9) w9 (.slice (some ⟨wb, wo + 3, none⟩) (ws.length - 3) (wcp - 3)) ((ws.drop 3).map Value.string)) := by
                have := HW9.out.sub (i := 3) (by simp; omega)
                rw [Hid, List.map_drop]
                simpa using this
              have hcap9 : ws.length ≤ wcp := by have := HW9.out.cap; simpa using this
              have hc3 : ¬ wcp = 3 := by omega
              have hc3i : (3 : Int) ≤ (ws.length : Int) := by omega
              have hz9 := HQ9.out.kept.size
              generalize hav9 : Value.slice (some ⟨g9, 0, none⟩) (st.at_.length + 1) cap9 = av9 at *
              clear hM9 hav9 hown9 hgrow9 hloc9 hnil9 hg9
              go_wp2_with (at_builtin; go_must (refine wpList_append_own_at _ rfl _ _ 54 rfl w1.heap.size 22 i22 _ 1 24 Tryz.underlying54 hi22 hx0 hx1 hx2 rfl (by decide) u8 st.behind.length _ rfl (World.ownsRow.alloc HQ9.out.b _) ⟨w9.heap.size, 0, none⟩ 1 1 [.slice (some ⟨wb, wo + 3, none⟩) (ws.length - 3) (wcp - 3)] rfl rfl (cell_one_new _ _ _) (by intro y hy; simp at hy; rcases hy with rfl; rfl) (by unfold maxLen; omega) (by omega) (by simp; omega) ?_); intro bv' w10 hown10 hgrow10 hnil10 hloc10; obtain ⟨g10, cap10, rfl⟩ := ownsRow_form hown10; have hg10 : Kept (fun b => inRow u8 b) w9 w10 := ((Kept.refl _ _).alloc _).grown hgrow10 (fun k _ e => e))
              go_roundw
              case rel =>
                have hM10 := HQ9.out.notM6 (row_blk HQ9.out.b HQ9.out.blk (by decide)) hg10
                have hq10 := HQ9.out.behind (N := w9.heap.size + 1) (bs := ws.drop 3) hg10 (by omega) hown10 (Kept.refl _ _) hM10 HSUB.out
                have hpush : st.push k ws = { st with names := st.names ++ [ws[0]], letters := st.letters ++ [lz], at_ := st.at_ ++ [(k : Int) + 1], behind := st.behind ++ [ws.drop 3] } := by
                  have g0 : ws.getD 0 nil = ws[0] := by simp [List.getD, hL00]
                  have g1 : ws.getD 1 nil = ws[1] := by simp [List.getD, show 1 < ws.length by omega]
                  rw [PSt.push, g0, g1, hlz]
                refine ⟨k + 1, nv', lv8, st.push k ws, _, by omega, by simp, HS.out, by rw [hpush]; exact hq10, ?_⟩
                rw [hpush]
                refine ⟨by simp; omega, by simp [HOK.out.l], by simp [HOK.out.a], by simp [HOK.out.b], fun bs hbs => ?_⟩
                rcases List.mem_append.1 hbs with h | h
                · exact HOK.out.r bs h
                · simp at h
                  subst h
                  simp
                  omega
              case measure => simp [intOf]; omega
          · have HS : Hid (parseM s = .err (lineE st.names ws) ((k : Int) + 1)) := by rw [Hid, HPM.out, HS0.out, if_neg hl0]
            have hne : ((lineE st.names ws) == 0) = false := by simpa using hl0
            have q4 : w4.heap[w.heap.size]? = some (.cells #[.slice none 0 0, .slice none 0 0, .slice none 0 0] 30 (0, 0)) := (HQ4.out.kept.block _ hRl (fun f => f)).trans q1
            have r0 : w4.cell? ⟨w.heap.size, 0, none⟩ = some (.slice none 0 0) := blk_cell q4 0
            have r1 : w4.cell? ⟨w.heap.size, 1, none⟩ = some (.slice none 0 0) := blk_cell q4 1
            have r2 : w4.cell? ⟨w.heap.size, 2, none⟩ = some (.slice none 0 0) := blk_cell q4 2
            have f0 := blk_frozen q4 0
            have f1 := blk_frozen q4 1
            have f2 := blk_frozen q4 2
            have HKW : Hid (Kept (fun _ => False) w w4) := HK1.out.trans HQ4.out.kept (fun _ _ f => f)
            generalize hee : lineE st.names ws = ee at *
            clear q4 hl0
            go_wp2
            rw [HS.out]
            refine bodyPost_ret (v := .tuple #[nilM, .int .i64 ee, .int .i64 ((k : Int) + 1)]) (by simp [results, Tryz.results7, go_sem, nilM, r0, r1, r2]) rfl ⟨?_, rfl⟩
            repeat (first | exact HKW.out | (refine Kept.setCell ?_ (fun hh => absurd hh (by simp)) _))
      · obtain rfl : k = ls.length := by omega
        have HPJ : Hid (parseM s = match joinL st.names st.behind st.at_ with
          | .inl l => .err 6 l
          | .inr t => if st.names.length = 0 then .err 6 0 else .ok ⟨st.names, st.letters, t⟩) := by
          have : parseL ls 0 .zero = .inr st := by rw [HPL.out, List.drop_length, parseL]
          rw [Hid, HPM.out, this]
        have HKX : Hid (Kept (fun _ => False) w wr) := HK1.out.trans HQ.out.kept (fun _ _ f => f)
        have qx : wr.heap[w.heap.size]? = some (.cells #[.slice none 0 0, .slice none 0 0, .slice none 0 0] 30 (0, 0)) := (HQ.out.kept.block _ hRl (fun f => f)).trans q1
        have hnl := HOK.out.n
        have hal : st.at_.length ≤ 1001 := by rw [HOK.out.a]; omega
        have hbl : st.behind.length ≤ 1001 := by rw [HOK.out.b]; omega
        have hrl : rs.length = st.behind.length := HQ.out.len
        obtain ⟨ba, bc, hbv, _⟩ := (own_ls HQ.out.b (by omega)).form
        rw [hrl] at hbv
        subst hbv
        have HB : Hid (LsV wr.heap.size wr (.slice ba st.behind.length bc) rs) := own_ls HQ.out.b (by omega)
        obtain ⟨aa, ac, hav, _⟩ := (own_ls HQ.out.a (by simp; omega)).form
        simp only [List.length_map] at hav
        subst hav
        have HAV : Hid (IntsV wr.heap.size wr (.slice aa st.at_.length ac) st.at_) := (own_ls HQ.out.a (by simp; omega)).ints
        obtain ⟨na, nc, hnv, _⟩ := (own_ls HQ.out.n (by simp; omega)).form
        simp only [List.length_map] at hnv
        subst hnv
        have HNV : Hid (StrsV wr.heap.size wr (.slice na st.names.length nc) st.names) := own_ls HQ.out.n (by simp; omega)
        have HMx : Hid (wr.heap[w1.heap.size]? = some (.cells #[.slice na st.names.length nc, lv, .slice none 0 0] 30 (0, 0))) := HQ.out.blk
        obtain ⟨i3, hi3, hy0, hy1, hy2⟩ := info_parts info3
        obtain ⟨i23, hi23, hx0, hx1, hx2⟩ := info_parts info23
        generalize hX : wr = X at *
        clear hX
        go_wp2
        go_loopw [13] (fun iv W => ∃ (i : Nat) (tv : Value) (trs : List Value) (done : List (List Int)), i ≤ st.behind.length ∧ iv = .int .i64 i ∧ joinL st.names st.behind st.at_ = joinE done (joinL st.names (st.behind.drop i) (st.at_.drop i)) ∧ done.length = i ∧ trs.length = i ∧ Kept (fun k => k = w1.heap.size) X W ∧ W.heap[w1.heap.size]? = some (.cells #[.slice na st.names.length nc, lv, tv] 30 (0, 0)) ∧ W.ownsRow X.heap.size 23 1 tv i trs ∧
          ∀ (j : Nat) (r : Value) (row : List Int), trs[j]? = some r → done[j]? = some row → LsS (fun k => w.heap.size ≤ k ∧ k < W.heap.size ∧ TyB W k 3) W r (row.map (Value.int .i64))) (fun iv _ => st.behind.length - (intOf iv).toNat)
        case atStart => exact ⟨0, .slice none 0 0, [], [], Nat.zero_le _, rfl, by simp [joinE_nil], rfl, rfl, Kept.refl _ _, HMx.out, World.ownsRow_nil _ _ _ _, fun j r row h => by simp at h⟩
        case round =>
          obtain ⟨i, tv, trs, done, hi0, rfl, hj, hdl, htl, hkW, hMW, htv, hrows⟩ := hrel
          have HJ : Hid _ := hj
          have HT : Hid (wr.ownsRow X.heap.size 23 1 tv i trs) := htv
          have HRO : Hid (∀ (j : Nat) (r : Value) (row : List Int), trs[j]? = some r → done[j]? = some row → LsS (fun k => w.heap.size ≤ k ∧ k < wr.heap.size ∧ TyB wr k 3) wr r (row.map (Value.int .i64))) := hrows
          have HKW : Hid (Kept (fun k => k = w1.heap.size) X wr) := hkW
          have HMW : Hid (wr.heap[w1.heap.size]? = some (.cells #[.slice na st.names.length nc, lv, tv] 30 (0, 0))) := hMW
          clear hj htv hrows hkW hMW
          by_cases hlt : i < st.behind.length
          · have hli : (i : Int) < (st.behind.length : Int) := by omega
            have hai : i < st.at_.length := by rw [HOK.out.a, ← HOK.out.b]; exact hlt
            have hri : i < rs.length := by omega
            obtain ⟨bs, hbs⟩ : ∃ bs, st.behind[i]? = some bs := ⟨_, List.getElem?_eq_getElem hlt⟩
            have hbsl : bs.length ≤ 1001 := HOK.out.r bs (List.mem_of_getElem? hbs)
            have HSTEP : Hid _ := joinL_step (names := st.names) hbs (List.getElem?_eq_getElem hai)
            have LAT : Hid (∀ W', Kept (fun _ => False) wr W' → (∃ rb ro, ba = some ⟨rb, ro, none⟩ ∧ W'.cell? ⟨rb, ro + i, none⟩ = some rs[i]) ∧ LsV X.heap.size W' rs[i] (bs.map Value.string) ∧ StrsV W'.heap.size W' (.slice na st.names.length nc) st.names ∧ (∃ ab ao, aa = some ⟨ab, ao, none⟩ ∧ w1.heap.size ≤ ab ∧ W'.cell? ⟨ab, ao + i, none⟩ = some (.int .i64 st.at_[i]))) := by
              intro W' hk'
              have hkM : Kept (fun k => k = w1.heap.size) X W' := HKW.out.trans hk' (fun _ _ f => f.elim)
              obtain ⟨l1, l2, l3, l4, l5⟩ := HQ.out.later hkM
              refine ⟨?_, l5 i rs[i] bs (List.getElem?_eq_getElem hri) hbs, own_ls l1 (by simp; omega), ?_⟩
              · obtain ⟨rb, ro, e, _, h⟩ := (own_ls l4 (by omega)).cell (List.getElem?_eq_getElem hri)
                exact ⟨rb, ro, e, h⟩
              · obtain ⟨ab, ao, e, hin, h⟩ := (own_lss l3 (by simp; omega)).cell (i := i) (x := .int .i64 st.at_[i]) (by simp [hai])
                exact ⟨ab, ao, e, (ownsRow_lt l3 hin).2, h⟩
            obtain ⟨⟨rb, ro, rfl, _⟩, hrs, _, ab, ao, rfl, hab, _⟩ := LAT.out wr (Kept.refl _ _)
            obtain ⟨ra, rc, hrf, _⟩ := hrs.form
            simp only [List.length_map] at hrf
            clear hrs
            have LAT2 : Hid (∀ W', Kept (fun _ => False) wr W' → W'.cell? ⟨rb, ro + i, none⟩ = some (.slice ra bs.length rc) ∧ StrsV X.heap.size W' (.slice ra bs.length rc) bs ∧ StrsV W'.heap.size W' (.slice na st.names.length nc) st.names ∧ W'.cell? ⟨ab, ao + i, none⟩ = some (.int .i64 st.at_[i]) ∧ W'.cell? ⟨w1.heap.size, 0, none⟩ = some (.slice na st.names.length nc)) := by
              intro W' hk'
              obtain ⟨⟨rb', ro', e1, h1⟩, h2, h3, ab', ao', e2, _, h4⟩ := LAT.out W' hk'
              cases e1
              cases e2
              rw [hrf] at h1 h2
              exact ⟨h1, h2, h3, h4, (hk'.cell (p := ⟨w1.heap.size, 0, none⟩) (lt_of_cell (blk_cell HMW.out 0)) (fun f => f)).trans (blk_cell HMW.out 0)⟩
            have hXW := HKW.out.size
            clear LAT hrf
            generalize hWo : wr = Wo at *
            clear hWo
            go_wp2
            go_loopw [14, 15] (fun tov jv W => ∃ (j : Nat), j ≤ bs.length ∧ jv = .int .i64 j ∧ knownB st.names (bs.take j) = true ∧ W.ownsRow Wo.heap.size 3 1 tov j (((bs.take j).map (findZ st.names)).map (Value.int .i64)) ∧ Kept (fun _ => False) Wo W) (fun _ jv _ => bs.length - (intOf jv).toNat)
            case atStart => exact ⟨0, Nat.zero_le _, rfl, rfl, World.ownsRow_nil _ _ _ _, Kept.refl _ _⟩
            case round =>
              obtain ⟨j, hj, rfl, hkn, hto, hkr⟩ := hrel
              obtain ⟨c1, hbV, hnV, c4, c5⟩ := LAT2.out wr hkr
              have HTO : Hid (wr.ownsRow Wo.heap.size 3 1 u14 j (((bs.take j).map (findZ st.names)).map (Value.int .i64))) := hto
              have HKN : Hid (knownB st.names (bs.take j) = true) := hkn
              have HNV' : Hid (StrsV wr.heap.size wr (.slice na st.names.length nc) st.names) := hnV
              clear hto hkn hnV
              have hzr := hkr.size
              by_cases hjl : j < bs.length
              · have hji : (j : Int) < (bs.length : Int) := by omega
                obtain ⟨sb, so, rfl, _, c2⟩ := StrsV.cell hbV hjl
                clear hbV
                obtain ⟨z, hz⟩ : ∃ z, findZ st.names bs[j] = z := ⟨_, rfl⟩
                go_upto_region 27 with fail
                have U0 : ∀ U : KW wr, U.1.cell? ⟨w1.heap.size, 0, none⟩ = some (.slice na st.names.length nc) := fun U => U.cell c5
                have U1 : ∀ U : KW wr, U.1.cell? ⟨rb, ro + i, none⟩ = some (.slice (some ⟨sb, so, none⟩) bs.length rc) := fun U => U.cell c1
                have U2 : ∀ U : KW wr, U.1.cell? ⟨sb, so + j, none⟩ = some (.string bs[j]) := fun U => U.cell c2
                refine wp_region_quiet_kept (by kernel_rfl) (by kernel_rfl) ?_
                repeat (refine wpQuiet_step (fun K hK => ?_); go_simp; first | (refine hK _ ?_; clear hK K) | (apply Exists.intro; refine ⟨fun U => ?_, hK _ ?_⟩; (go_at_call 32; exact Calls.quiet_kept (find32k _ wr.heap.size _ st.names bs[j] z hz (HNV'.out.kept U.2 (Nat.le_refl _)))); clear hK K))
                refine wpQuiet_nil ?_
                intro w5 hw'
                have k5 : Kept (fun _ => False) wr w5 := by
                  obtain ⟨U, rfl⟩ := hw'
                  exact U.2
                have hkr5 := hkr.trans k5 (fun _ _ f => f)
                obtain ⟨_, _, _, d4, _⟩ := LAT2.out w5 hkr5
                clear hw' U0 U1 U2 c1 c2 c4 c5
                by_cases hm : bs[j] ∈ st.names
                · have hge : ¬ z < 0 := by have := findZ_pos.2 hm; omega
                  have HKN2 : Hid (knownB st.names (bs.take (j + 1)) = true) := knownB_take hjl HKN.out hm
                  have HTO5 : Hid (w5.ownsRow Wo.heap.size 3 1 u14 j (((bs.take j).map (findZ st.names)).map (Value.int .i64))) := own_new HTO.out k5
                  have hz5 := hkr5.size
                  clear hm d4
                  go_wp2_with (at_builtin; go_must (refine wpList_append_own_at _ rfl _ _ 23 rfl Wo.heap.size 3 i3 _ 1 8 Tryz.underlying23 hi3 hy0 hy1 hy2 rfl (by decide) u14 j _ rfl (World.ownsRow.alloc HTO5.out _) ⟨w5.heap.size, 0, none⟩ 1 1 [.int .i64 z] rfl rfl (cell_one_new _ _ _) (by intro y hy; simp at hy; rcases hy with rfl; rfl) (by unfold maxLen; omega) (by omega) (by simp; omega) ?_); intro tv6 w6 hown6 hgrow6 hnil6 hloc6)
                  go_roundw
                  case rel =>
                    have hg6 : Kept (fun b => inRow u14 b) w5 w6 := ((Kept.refl _ _).alloc _).grown hgrow6 (fun k _ e => e)
                    refine ⟨j + 1, by omega, by simp, HKN2.out, ?_, hkr5.trans hg6 (fun b hb e => ?_)⟩
                    · have he : (bs.take (j + 1)).map (findZ st.names) = (bs.take j).map (findZ st.names) ++ [z] := by
                        rw [List.take_add_one, List.getElem?_eq_getElem hjl, List.map_append]
                        simp [hz]
                      rw [he, List.map_append]
                      exact hown6
                    · have := (ownsRow_lt HTO5.out e).2
                      omega
                  case measure => simp [intOf]; omega
                · have hge : z < 0 := by
                    by_cases h : z < 0
                    · exact h
                    · exact absurd (findZ_pos.1 (by omega)) hm
                  have HE : Hid (parseM s = .err 6 st.at_[i]) := by
                    rw [Hid, HPJ.out, HJ.out, HSTEP.out, if_neg (by rw [knownB_no hjl hm]; simp)]
                    rfl
                  have q5 : w5.heap[w.heap.size]? = some (.cells #[.slice none 0 0, .slice none 0 0, .slice none 0 0] 30 (0, 0)) := ((hkr5.block _ (by have := (Array.getElem?_eq_some_iff.1 qx).1; omega) (fun f => f)).trans (HKW.out.block _ (Array.getElem?_eq_some_iff.1 qx).1 (by omega))).trans qx
                  have r0 : w5.cell? ⟨w.heap.size, 0, none⟩ = some (.slice none 0 0) := blk_cell q5 0
                  have r1 : w5.cell? ⟨w.heap.size, 1, none⟩ = some (.slice none 0 0) := blk_cell q5 1
                  have r2 : w5.cell? ⟨w.heap.size, 2, none⟩ = some (.slice none 0 0) := blk_cell q5 2
                  have f0 := blk_frozen q5 0
                  have f1 := blk_frozen q5 1
                  have f2 := blk_frozen q5 2
                  have hai2 : (i : Int) < (st.at_.length : Int) := by omega
                  have hnab : ¬ ab = w.heap.size := by omega
                  have hnab2 : ¬ w.heap.size = ab := by omega
                  have HKW5 : Hid (Kept (fun _ => False) w w5) := (HKX.out.trans (HKW.out.trans hkr5 (fun _ _ f => f.elim)) (fun k hk e => by have := HQ.out.mn; omega))
                  clear hm q5
                  go_upto_region 29 with fail
                  go_region
                  all_goals
                    go_wp2
                    rw [HE.out]
                    refine bodyPost_ret (v := .tuple #[nilM, .int .i64 6, .int .i64 st.at_[i]]) (by simp [results, Tryz.results7, go_sem, nilM, r0, r1, r2]) rfl ⟨?_, rfl⟩
                    repeat (first | exact HKW5.out | exact HKW5.out.drew | (refine Kept.setCell ?_ (fun hh => absurd hh (by simp)) _) | (refine Kept.drew ?_))
              · obtain rfl : j = bs.length := by omega
                have HNEW : Hid (joinL st.names st.behind st.at_ = joinE (done ++ [bs.map (findZ st.names)]) (joinL st.names (st.behind.drop (i + 1)) (st.at_.drop (i + 1)))) := by
                  have hkb : knownB st.names bs = true := by have := HKN.out; rw [List.take_length] at this; exact this
                  rw [Hid, HJ.out, HSTEP.out, if_pos hkb, joinE_step]
                rw [List.take_length] at HTO
                have c2 : wr.cell? ⟨w1.heap.size, 2, none⟩ = some tv := (hkr.cell (p := ⟨w1.heap.size, 2, none⟩) (lt_of_cell (blk_cell HMW.out 2)) (fun f => f)).trans (blk_cell HMW.out 2)
                have HTr : Hid (wr.ownsRow X.heap.size 23 1 tv i trs) := own_new HT.out hkr
                have HMr : Hid (wr.heap[w1.heap.size]? = some (.cells #[.slice na st.names.length nc, lv, tv] 30 (0, 0))) := (hkr.block _ (Array.getElem?_eq_some_iff.1 HMW.out).1 (fun f => f)).trans HMW.out
                clear c4 c5 hbV
                obtain ⟨ua, uc, hu14, _⟩ := (own_ls HTO.out (by simp; omega)).form
                simp only [List.length_map] at hu14
                subst hu14
                go_wp2_with (at_builtin; go_must (refine wpList_append_own_at _ rfl _ _ 24 rfl X.heap.size 23 i23 _ 1 24 Tryz.underlying24 hi23 hx0 hx1 hx2 rfl (by decide) tv i _ rfl (World.ownsRow.alloc HTr.out _) ⟨wr.heap.size, 0, none⟩ 1 1 [.slice ua bs.length uc] rfl rfl (cell_one_new _ _ _) (by intro y hy; simp at hy; rcases hy with rfl; rfl) (by unfold maxLen; omega) (by omega) (by simp; omega) ?_); intro tv6 w6 hown6 hgrow6 hnil6 hloc6; obtain ⟨g6, cap6, rfl⟩ := ownsRow_form hown6; have hg6 : Kept (fun b => inRow tv b) wr w6 := ((Kept.refl _ _).alloc _).grown hgrow6 (fun k _ e => e); have hM6 := (hg6.block _ (Array.getElem?_eq_some_iff.1 HMr.out).1 (row_blk HTr.out HMr.out (by decide))).trans HMr.out; have d0 : w6.cell? ⟨w1.heap.size, 2, none⟩ = some tv := blk_cell hM6 2; have d1 := blk_frozen hM6 2)
                go_roundw
                case rel =>
                  have hz6 := hg6.size
                  obtain ⟨w7, hw7⟩ : ∃ w7, w7 = w6.setCell ⟨w1.heap.size, 2, none⟩ (.slice (some ⟨g6, 0, none⟩) (i + 1) cap6) := ⟨_, rfl⟩
                  have hs7 : Kept (fun k => k = w1.heap.size) w6 w7 := by rw [hw7]; exact Kept.setCell (S := fun k => k = w1.heap.size) (Kept.refl _ _) (fun _ => rfl) _
                  have hM7 : w7.heap[w1.heap.size]? = some (.cells #[.slice na st.names.length nc, lv, .slice (some ⟨g6, 0, none⟩) (i + 1) cap6] 30 (0, 0)) := by rw [hw7]; exact heap_setCell_same _ _ _ _ _ _ hM6
                  have htv7 := own_keptM hown6 hs7 (row_blk hown6 hM6 (by decide))
                  have hbl : ∀ k, k < wr.heap.size → TyB wr k 3 → w7.heap[k]? = wr.heap[k]? := fun k hk ht => (hs7.block k (Nat.lt_of_lt_of_le hk hz6) (ht.ne HMr.out (by decide))).trans (hg6.block k hk (fun e => by
                    obtain ⟨c, hc⟩ := row_ty HTr.out e
                    obtain ⟨c', hc'⟩ := ht
                    rw [hc] at hc'
                    injection hc' with hc'
                    injection hc' with _ hc'
                    exact absurd hc' (by decide)))
                  have hz7 := hs7.size
                  refine ⟨i + 1, .slice (some ⟨g6, 0, none⟩) (i + 1) cap6, trs ++ [.slice ua bs.length uc], done ++ [bs.map (findZ st.names)], by omega, by simp, HNEW.out, by simp [hdl], by simp [htl], ?_, ?_, ?_, ?_⟩
                  · rw [← hw7]
                    exact ((HKW.out.trans hkr (fun _ _ f => f.elim)).trans hg6 (fun k hk e => absurd (ownsRow_lt HTr.out e).2 (by omega))).trans hs7 (fun _ _ e => e)
                  · rw [← hw7]; exact hM7
                  · rw [← hw7]; exact htv7
                  · rw [← hw7]
                    intro j' r row h1 h2
                    rw [List.getElem?_append] at h1 h2
                    by_cases hj' : j' < trs.length
                    · rw [if_pos hj'] at h1
                      rw [if_pos (by omega)] at h2
                      refine (HRO.out j' r row h1 h2).keep (fun k e => ⟨e.1, by have := e.2.1; omega, ?_⟩) (fun k e => ?_)
                      · have hk' : wr.heap[k]? = Wo.heap[k]? := hkr.block k e.2.1 (fun f => f)
                        have ht := e.2.2.of hk'
                        exact ht.of (hbl k (by have := e.2.1; omega) ht)
                      · have hk' : wr.heap[k]? = Wo.heap[k]? := hkr.block k e.2.1 (fun f => f)
                        exact (hbl k (by have := e.2.1; omega) (e.2.2.of hk')).trans hk'
                    · rw [if_neg hj'] at h1
                      rw [if_neg (by omega)] at h2
                      have e0 : j' - trs.length = 0 := by
                        by_cases hz : j' - trs.length = 0
                        · exact hz
                        · rw [List.getElem?_eq_none (by simp; omega)] at h1; cases h1
                      have e1 : j' - done.length = 0 := by omega
                      rw [e0] at h1
                      rw [e1] at h2
                      simp at h1 h2
                      subst h1 h2
                      refine (own_lss HTO.out (by simp; omega)).keep (fun k e => ⟨?_, ?_, ?_⟩) (fun k e => hbl k (ownsRow_lt HTO.out e).1 (row_ty HTO.out e))
                      · have h8 := (ownsRow_lt HTO.out e).2
                        have h9 := HQ.out.kept.size
                        omega
                      · have := (ownsRow_lt HTO.out e).1; omega
                      · exact TyB.of (w := wr) (row_ty HTO.out e) (hbl k (ownsRow_lt HTO.out e).1 (row_ty HTO.out e))
                case measure => simp [intOf]; omega
          · obtain rfl : i = st.behind.length := by omega
            have HJE : Hid (joinL st.names st.behind st.at_ = .inr done) := by
              rw [Hid, HJ.out, List.drop_length]
              simp [joinL, joinE]
            have q5 : wr.heap[w.heap.size]? = some (.cells #[.slice none 0 0, .slice none 0 0, .slice none 0 0] 30 (0, 0)) := (HKW.out.block _ (Array.getElem?_eq_some_iff.1 qx).1 (by omega)).trans qx
            have r0 : wr.cell? ⟨w.heap.size, 0, none⟩ = some (.slice none 0 0) := blk_cell q5 0
            have r1 : wr.cell? ⟨w.heap.size, 1, none⟩ = some (.slice none 0 0) := blk_cell q5 1
            have r2 : wr.cell? ⟨w.heap.size, 2, none⟩ = some (.slice none 0 0) := blk_cell q5 2
            have f0 := blk_frozen q5 0
            have f1 := blk_frozen q5 1
            have f2 := blk_frozen q5 2
            have c0 : wr.cell? ⟨w1.heap.size, 0, none⟩ = some (.slice na st.names.length nc) := blk_cell HMW.out 0
            have c1 : wr.cell? ⟨w1.heap.size, 1, none⟩ = some lv := blk_cell HMW.out 1
            have c2 : wr.cell? ⟨w1.heap.size, 2, none⟩ = some tv := blk_cell HMW.out 2
            have HKW5 : Hid (Kept (fun _ => False) w wr) := HKX.out.trans HKW.out (fun k hk e => by have := HQ.out.mn; omega)
            obtain ⟨l1, l2, _, _, _⟩ := HQ.out.later HKW.out
            obtain ⟨la, lc, hlv, _⟩ := (own_ls l2 (by simp [HOK.out.l]; omega)).form
            simp only [List.length_map] at hlv
            subst hlv
            obtain ⟨ta, tc, htv, _⟩ := (own_ls HT.out (by omega)).form
            rw [htl] at htv
            subst htv
            have HL1 : Hid (wr.ownsRow w1.heap.size 9 1 (.slice na st.names.length nc) st.names.length (st.names.map Value.string)) := l1
            have HL2 : Hid (wr.ownsRow w1.heap.size 3 1 (.slice la st.letters.length lc) st.letters.length (st.letters.map (Value.int .i64))) := l2
            have HQ5' : Hid (wr.heap[w.heap.size]? = some (.cells #[.slice none 0 0, .slice none 0 0, .slice none 0 0] 30 (0, 0))) := q5
            have hXw := HKW.out.size
            clear q5 l1 l2
            by_cases hn0 : st.names.length = 0
            · have HE : Hid (parseM s = .err 6 0) := by rw [Hid, HPJ.out, HJE.out]; simp only; rw [if_pos hn0]
              have hn0b : ((st.names.length : Int) == 0) = true := by rw [hn0]; rfl
              clear hn0
              go_wp2
              rw [HE.out]
              refine bodyPost_ret (v := .tuple #[nilM, .int .i64 6, .int .i64 0]) (by simp [results, Tryz.results7, go_sem, nilM, r0, r1, r2]) rfl ⟨?_, rfl⟩
              repeat (first | exact HKW5.out | (refine Kept.setCell ?_ (fun hh => absurd hh (by simp)) _))
            · have HE : Hid (parseM s = .ok ⟨st.names, st.letters, done⟩) := by rw [Hid, HPJ.out, HJE.out]; simp only; rw [if_neg hn0]
              have hn0b : ((st.names.length : Int) == 0) = false := beq_eq_false_iff_ne.2 (by omega)
              clear hn0
              go_wp2
              rw [HE.out]
              obtain ⟨W7, hW7⟩ : ∃ W7, W7 = ((wr.setCell ⟨w.heap.size, 0, none⟩ (.slice na st.names.length nc)).setCell ⟨w.heap.size, 1, none⟩ (.slice la st.letters.length lc)).setCell ⟨w.heap.size, 2, none⟩ (.slice ta st.behind.length tc) := ⟨_, rfl⟩
              have kR : Kept (fun k => k = w.heap.size) wr W7 := by
                rw [hW7]
                exact ((Kept.setCell (S := fun k => k = w.heap.size) (Kept.refl _ _) (fun _ => rfl) _).setCell (fun _ => rfl) _).setCell (fun _ => rfl) _
              have hw17 : w1.heap.size ≤ X.heap.size := HQ.out.kept.size
              have g1 := own_keptM HL1.out kR (fun e => absurd (ownsRow_lt HL1.out e).2 (by omega))
              have g2 := own_keptM HL2.out kR (fun e => absurd (ownsRow_lt HL2.out e).2 (by omega))
              have g3 := own_keptM HT.out kR (fun e => absurd (ownsRow_lt HT.out e).2 (by omega))
              have hll : st.letters.length ≤ 1001 := by rw [HOK.out.l]; omega
              refine bodyPost_ret (v := .tuple #[.agg #[.slice na st.names.length nc, .slice la st.letters.length lc, .slice ta st.behind.length tc], .int .i64 0, .int .i64 0]) (by simp [results, Tryz.results7, go_sem, r0, r1, r2]) rfl ⟨?_, _, rfl, ⟨_, _, _, rfl, ?_, ?_, ?_⟩⟩
              · repeat (first | exact HKW5.out | (refine Kept.setCell ?_ (fun hh => absurd hh (by simp)) _))
              · rw [← hW7]
                exact own_lsn g1 (by simp; omega) (by omega)
              · rw [← hW7]
                exact own_lsn g2 (by simp; omega) (by omega)
              · rw [← hW7]
                refine ⟨trs, show trs.length = done.length by omega, own_lsn g3 (by omega) (by omega), fun j r row h1 h2 => ?_⟩
                exact (HRO.out j r row h1 h2).keep (fun k e => ⟨e.1, Nat.lt_of_lt_of_le e.2.1 kR.size⟩) (fun k e => kR.block k e.2.1 (e.2.2.ne HQ5'.out (by decide)))
end Go.Proofs.YtdbpdanocpfboabGreatDoor
