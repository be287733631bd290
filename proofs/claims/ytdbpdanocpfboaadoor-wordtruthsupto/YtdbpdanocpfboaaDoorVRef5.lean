/- Walks of the reference: Behind, later. -/
import Derived.Test.YtdbpdanocpfboaaDoorVPre
import Derived.Test.YtdbpdanocpfboaaDoorVSat
namespace Go.Proofs.YtdbpdanocpfboaaDoor
open Go.RowKit

theorem places44n (w : World) (B : Nat) (v : Value) (hd lp : List Int) (n : Nat) (hn : hd.length + lp.length = n) (hW : WordV B w v hd lp) : Calls Tryd.prog 44 #[v] w fun e w' => Kept (fun _ => False) w w' ∧ e = .returned (.int .i64 (n : Int)) := by
  subst hn
  exact places44 w B v hd lp hW

set_option maxRecDepth 100000 in
set_option maxHeartbeats 1000000 in
theorem behind112 (w : World) (B : Nat) (wv : Value) (hd lp : List Int) (n i r : Nat) (hn : hd.length + lp.length = n) (hn2 : n ≤ 20000) (hi : i < n) (hr : (if i + 1 = n then hd.length else i + 1) = r) (hW : WordV B w wv hd lp) (hB : B ≤ w.heap.size) :
    Calls Tryd.prog 110 #[wv, .int .i64 (i : Int)] w fun e w' => Kept (fun _ => False) w w' ∧ e = .returned (.int .i64 (r : Int)) := by
  obtain ⟨hv1, lv1, rfl, h1, h2⟩ := id hW
  obtain ⟨ha, hc, rfl, hl1⟩ := h1.form
  obtain ⟨la, lc, rfl, hl2⟩ := h2.form
  obtain ⟨W0, hW0⟩ : ∃ W0, W0 = w.alloc (.cells #[.slice ha hd.length hc, .slice la lp.length lc] 48) := ⟨_, rfl⟩
  have k0 : Kept (fun _ => False) w W0 := by rw [hW0]; exact (Kept.refl _ _).alloc _
  have y0 : Bx W0 w.heap.size (.slice ha hd.length hc) (.slice la lp.length lc) := by rw [hW0]; exact Bx.new w _ _ 48
  have HW0 : Hid (WordV B W0 (.agg #[.slice ha hd.length hc, .slice la lp.length lc]) hd lp) := hW.kept k0 hB
  obtain ⟨y00, y01⟩ := id y0
  clear hW h1 h2
  go_enter Tryd.func110, Tryd.ntmps110
  go_upto_region 1 with fail
  rw [← hW0]
  clear hW0
  by_cases he : i + 1 = n
  · rw [if_pos he] at hr
    subst hr
    have hei : ((i : Int) + 1 == (n : Int)) = true := by simp; omega
    go_upto_region 2 with (go_at_call 44; refine (places44n _ B _ hd lp n hn HW0.out).mono ?_; rintro e w1 ⟨k1, rfl⟩; obtain ⟨z0, z1⟩ := y0.kept k1 (fun f => f))
    go_wp2
    go_ret
    exact ⟨k0.trans k1 (fun _ _ f => f), rfl⟩
  · rw [if_neg he] at hr
    have hei : ((i : Int) + 1 == (n : Int)) = false := by simp; omega
    go_wp2_with (go_at_call 44; refine (places44n _ B _ hd lp n hn HW0.out).mono ?_; rintro e w1 ⟨k1, rfl⟩; obtain ⟨z0, z1⟩ := y0.kept k1 (fun f => f))
    go_ret
    exact ⟨k0.trans k1 (fun _ _ f => f), ret_int (by omega)⟩

/-- block b, new since w0, is a row of bools that may be written over -/
def ORow (w0 w : World) (b : Nat) (xs : List Bool) : Prop :=
  Kept (fun _ => False) w0 w ∧ w0.heap.size ≤ b ∧ b < w.heap.size ∧ ∀ i (h : i < xs.length), w.cell? ⟨b, i, none⟩ = some (.bool xs[i]) ∧ w.frozen? ⟨b, i, none⟩ = false
theorem ORow.kept {w0 w w' : World} {b : Nat} {xs : List Bool} (h : ORow w0 w b xs) (hk : Kept (fun _ => False) w w') : ORow w0 w' b xs := by
  obtain ⟨h1, h2, h3, h4⟩ := h
  exact ⟨h1.trans hk (fun _ _ f => f), h2, Nat.lt_of_lt_of_le h3 hk.size, fun i hi => ⟨(hk.cell (p := ⟨b, i, none⟩) h3 (fun f => f)).trans (h4 i hi).1, (hk.frozen (p := ⟨b, i, none⟩) h3 (fun f => f)).trans (h4 i hi).2⟩⟩
theorem ORow.set {w0 w : World} {b : Nat} {xs : List Bool} (h : ORow w0 w b xs) {i : Nat} (hi : i < xs.length) (v : Bool) : ORow w0 (w.setCell ⟨b, i, none⟩ (.bool v)) b (xs.set i v) := by
  obtain ⟨h1, h2, h3, h4⟩ := h
  refine ⟨h1.setCell (fun hh => absurd hh (by simp only; omega)) _, h2, Nat.lt_of_lt_of_le h3 (by simp [World.setCell]), fun j hj => ?_⟩
  rw [List.length_set] at hj
  obtain ⟨g1, g2⟩ := h4 j hj
  obtain ⟨e1, e2⟩ := h4 i hi
  by_cases e : i = j
  · subst e
    simp [go_sem, g1, g2]
  · simp [go_sem, g1, g2, e]
theorem ORow.cell {w0 w : World} {b : Nat} {xs : List Bool} (h : ORow w0 w b xs) {i : Nat} (hi : i < xs.length) {v : Bool} (hv : xs.getD i false = v) : w.cell? ⟨b, i, none⟩ = some (.bool v) := by
  rw [(h.2.2.2 i hi).1, ← hv, List.getD_eq_getElem?_getD, List.getElem?_eq_getElem hi]
  rfl
theorem make51 (n : Nat) (hn : n ≤ 20000) (u : World) : (Instr.makeSlice 51 (.int .i64 (n : Int)) (.int .i64 (n : Int))).run Tryd.prog u = .ok (.slice (some ⟨u.heap.size, 0, none⟩) n n) (u.alloc (.cells (madeCells #[.bool false] n) 4)) := by
  obtain ⟨i0, hi, hz0, hz1, hz2⟩ := info_parts info4
  have h := run_make (P := Tryd.prog) u 51 4 i0 (.bool false) Tryd.underlying51 hi hz0 .i64 .i64 (n : Int) (n : Int) (by omega) (Int.le_refl _) (by rw [hz2]; omega) (by omega)
  simpa [hz1, Value.cells] using h
theorem ORow.new (w : World) (n : Nat) : ORow w (w.alloc (.cells (madeCells #[.bool false] n) 4)) w.heap.size (List.replicate n false) := by
  refine ⟨(Kept.refl _ _).alloc _, Nat.le_refl _, by simp, fun i hi => ?_⟩
  rw [List.length_replicate] at hi
  rw [cell_made _ _ _ hi]
  exact ⟨by simp, by simp⟩

theorem ORow.rebase {w0 w1 w : World} {b : Nat} {xs : List Bool} (h : ORow w1 w b xs) (hk : Kept (fun _ => False) w0 w1) : ORow w0 w b xs := ⟨hk.trans h.1 (fun _ _ f => f), Nat.le_trans hk.size h.2.1, h.2.2⟩

/-- one round from the end -/
def sweep (p : Bool → Bool → Bool → Bool) (x : Bool) (us vs : List Bool) : List Bool := (List.range us.length).map (atB p x us vs)
theorem sweep_len (p : Bool → Bool → Bool → Bool) (x : Bool) (us vs : List Bool) : (sweep p x us vs).length = us.length := by simp [sweep]
theorem sweep_get (p : Bool → Bool → Bool → Bool) (x : Bool) (us vs : List Bool) {i : Nat} (h : i < us.length) : (sweep p x us vs).getD i false = atB p x us vs i := by
  simp [sweep, List.getD_eq_getElem?_getD, h]
theorem back_stays {T : Bool} {c : Bool → Bool} {p : Bool → Bool → Bool → Bool} {us vs : List Bool} {L : Nat} (hp : Pass T c p) (hl : vs.length = us.length) (hL : L < us.length) : atB p (atB p (!T) us vs L) us vs L = atB p (!T) us vs L := by
  have h0 := atB_lin (n := us.length) hp rfl hl (!T) (us.length - L) L rfl (by omega)
  have h1 := atB_lin (n := us.length) hp rfl hl (atB p (!T) us vs L) (us.length - L) L rfl (by omega)
  have hf : ¬ (!T) = T := by cases T <;> simp
  have h0' : atB p (!T) us vs L = T ↔ ∃ m, L ≤ m ∧ m < us.length ∧ vs.getD m false = T ∧ ∀ q, L ≤ q → q < m → c (us.getD q false) = T := by
    rw [h0]
    exact ⟨fun h => h.elim id (fun h => absurd h.1 hf), .inl⟩
  have : atB p (atB p (!T) us vs L) us vs L = T ↔ atB p (!T) us vs L = T := by
    rw [h1]
    constructor
    · rintro (h | ⟨h, _⟩)
      · exact h0'.2 h
      · exact h
    · intro h
      exact .inl (h0'.1 h)
  generalize atB p (atB p (!T) us vs L) us vs L = x at *
  generalize atB p (!T) us vs L = y at *
  revert this
  cases T <;> cases x <;> cases y <;> simp
theorem back_sweep (p : Bool → Bool → Bool → Bool) (st : Bool) (us vs : List Bool) (L : Nat) : backRow p st us vs L = sweep p (atB p st us vs L) us vs := rfl

set_option maxRecDepth 100000 in
set_option maxHeartbeats 8000000 in
theorem later111_8 (w : World) (B : Nat) (wv : Value) (hd lp : List Int) (us vs : List Bool) (bf bg : Nat) (hn2 : us.length ≤ 20000) (hn : hd.length + lp.length = us.length) (hv : vs.length = us.length) (hlp : 0 < lp.length) (hW : WordV B w wv hd lp) (hB : B ≤ w.heap.size) (hf : ∀ i, i < us.length → w.cell? ⟨bf, i, none⟩ = some (.bool (us.getD i false))) (hg : ∀ i, i < us.length → w.cell? ⟨bg, i, none⟩ = some (.bool (vs.getD i false))) :
    Calls Tryd.prog 109 #[wv, .int .i64 8, .slice (some ⟨bf, 0, none⟩) us.length us.length, .slice (some ⟨bg, 0, none⟩) us.length us.length] w fun e w' => ∃ b, e = .returned (.slice (some ⟨b, 0, none⟩) us.length us.length) ∧ ORow w w' b (backRow pUntil false us vs hd.length) := by
  obtain ⟨hv1, lv1, rfl, h1, h2⟩ := id hW
  obtain ⟨ha, hc, rfl, hl1⟩ := h1.form
  obtain ⟨la, lc, rfl, hl2⟩ := h2.form
  obtain ⟨n, hnn⟩ : ∃ n, us.length = n := ⟨_, rfl⟩
  rw [hnn] at hn2 hn hv hf hg ⊢
  have HUL : Hid (us.length = n) := hnn
  have HVL : Hid (vs.length = n) := hv
  clear hnn hv
  obtain ⟨W0, hW0⟩ : ∃ W0, W0 = w.alloc (.cells #[.slice ha hd.length hc, .slice la lp.length lc] 48) := ⟨_, rfl⟩
  have k0 : Kept (fun _ => False) w W0 := by rw [hW0]; exact (Kept.refl _ _).alloc _
  have y0 : Bx W0 w.heap.size (.slice ha hd.length hc) (.slice la lp.length lc) := by rw [hW0]; exact Bx.new w _ _ 48
  have HW : Hid (WordV B w (.agg #[.slice ha hd.length hc, .slice la lp.length lc]) hd lp) := hW
  have HW0 : Hid (WordV B W0 (.agg #[.slice ha hd.length hc, .slice la lp.length lc]) hd lp) := hW.kept k0 hB
  have HFC : Hid (∀ i, i < n → w.cell? ⟨bf, i, none⟩ = some (.bool (us.getD i false))) := hf
  have HGC : Hid (∀ i, i < n → w.cell? ⟨bg, i, none⟩ = some (.bool (vs.getD i false))) := hg
  obtain ⟨y00, y01⟩ := id y0
  clear hW h1 h2 hf hg
  go_enter Tryd.func109, Tryd.ntmps109
  go_upto_region 1 with fail
  rw [← hW0]
  clear hW0
  have hmk := make51 n hn2
  go_upto_region 3 with (go_at_call 44; refine (places44n _ B _ hd lp n hn HW0.out).mono ?_; rintro e w1 ⟨k1, rfl⟩)
  have kw1 := k0.trans k1 (fun _ _ f => f)
  have hR0 := ORow.new w1 n
  have Y1 : Hid (Bx w1 w.heap.size (.slice ha hd.length hc) (.slice la lp.length lc)) := y0.kept k1 (fun f => f)
  obtain ⟨ob, hob⟩ : ∃ ob, w1.heap.size = ob := ⟨_, rfl⟩
  rw [hob] at hR0 ⊢
  obtain ⟨W2, hW2⟩ : ∃ W2, W2 = w1.alloc (.cells (madeCells #[.bool false] n) 4) := ⟨_, rfl⟩
  rw [← hW2] at hR0 ⊢
  have HR0 : Hid (ORow w1 W2 ob (List.replicate n false)) := hR0
  have KW1 : Hid (Kept (fun _ => False) w w1) := kw1
  clear hmk y00 y01 hW2 hR0 kw1 k0 k1 y0 HW0 hob
  go_wp2
  go_loopw [11] (fun v11 wr => ∃ (k : Nat) (xs : List Bool), k ≤ n ∧ v11 = .int .i64 (k : Int) ∧ xs.length = n ∧ ORow w1 wr ob xs ∧ ∀ j, j < k → xs.getD j false = false) (fun v11 _ => n - (intOf v11).toNat)
  case atStart => exact ⟨0, List.replicate n false, Nat.zero_le _, rfl, by simp, HR0.out, fun j hj => absurd hj (by omega)⟩
  case round =>
    obtain ⟨k, xs, hk, rfl, hxl, hrow, hst⟩ := hrel
    have HROW : Hid (ORow w1 wr ob xs) := hrow
    have HST : Hid (∀ j, j < k → xs.getD j false = false) := hst
    have HXL : Hid (xs.length = n) := hxl
    clear hrow hst hxl
    by_cases hlt : k < n
    · have hlti : (k : Int) < (n : Int) := by omega
      obtain ⟨cc, cf⟩ := HROW.out.2.2.2 k (by rw [HXL.out]; exact hlt)
      go_wp2
      go_roundw
      case rel =>
        refine ⟨k + 1, xs.set k false, by omega, by go_num, by rw [List.length_set, HXL.out], HROW.out.set (by rw [HXL.out]; exact hlt) false, fun j hj => ?_⟩
        rw [List.getD_eq_getElem?_getD, List.getElem?_set]
        by_cases e : k = j
        · subst e
          simp [HXL.out, hlt]
        · rw [if_neg e, ← List.getD_eq_getElem?_getD]
          exact HST.out j (by omega)
      case measure => simp [intOf]; omega
    · have hlti : ¬ (k : Int) < (n : Int) := by omega
      have hL : hd.length < n := by omega
      go_wp2
      go_loopw [12, 13] (fun v12 _ ws => ∃ (r : Nat) (ys : List Bool), r ≤ n + 1 ∧ v12 = .int .i64 (r : Int) ∧ ys.length = n ∧ ORow w1 ws ob ys ∧ (r = 0 → ys.getD hd.length false = false) ∧ (r = 1 → ys = sweep pUntil false us vs) ∧ (2 ≤ r → ys = backRow pUntil false us vs hd.length)) (fun v12 _ _ => n + 1 - (intOf v12).toNat)
      case atStart => exact ⟨0, xs, Nat.zero_le _, rfl, HXL.out, HROW.out, fun _ => HST.out hd.length (by omega), fun h => by omega, fun h => by omega⟩
      case round =>
        obtain ⟨r, ys, hr, rfl, hyl, hyrow, g0, g1, g2⟩ := hrel
        obtain ⟨x, hx⟩ : ∃ x, ys.getD hd.length false = x := ⟨_, rfl⟩
        have hUL := HUL.out
        have hVL := HVL.out
        have HN1 : Hid (r + 1 = 1 → sweep pUntil false us vs = sweep pUntil x us vs) := fun h => by rw [← hx, g0 (by omega)]
        have HN2 : Hid (2 ≤ r + 1 → sweep pUntil x us vs = backRow pUntil false us vs hd.length) := fun h => by
          rw [back_sweep, ← hx]
          by_cases e : r = 1
          · rw [g1 e, sweep_get _ _ _ _ (by omega)]
          · rw [g2 (by omega), back_sweep, sweep_get _ _ _ _ (by omega)]
            rw [show false = (!true) from rfl, back_stays pass_until (by omega) (by omega)]
        have HG2 : Hid (2 ≤ r → ys = backRow pUntil false us vs hd.length) := g2
        have HYR : Hid (ORow w1 wr ob ys) := hyrow
        have HYL : Hid (ys.length = n) := hyl
        have HX : Hid (ys.getD hd.length false = x) := hx
        clear g0 g1 g2 hyrow hyl hx hUL hVL HROW HST HXL
        by_cases hle : r ≤ n
        · have hlei : (r : Int) ≤ (n : Int) := by omega
          go_wp2
          go_loopw [13] (fun v13 wt => ∃ (m : Nat) (zs : List Bool) (z : Int), m ≤ n ∧ v13 = .int .i64 z ∧ z = (m : Int) - 1 ∧ zs.length = n ∧ ORow w1 wt ob zs ∧ (∀ j, m ≤ j → j < n → zs.getD j false = atB pUntil x us vs j) ∧ ∀ j, j < m → zs.getD j false = ys.getD j false) (fun v13 _ => (intOf v13 + 1).toNat)
          case atStart => exact ⟨n, ys, _, Nat.le_refl _, rfl, rfl, HYL.out, HYR.out, fun j h1 h2 => absurd h1 (by omega), fun j hj => rfl⟩
          case round =>
            obtain ⟨m, zs, z, hm, rfl, hz, hzl, hzrow, hz1, hz2⟩ := hrel
            have HZR : Hid (ORow w1 wr ob zs) := hzrow
            have HZL : Hid (zs.length = n) := hzl
            have HZ1 : Hid (∀ j, m ≤ j → j < n → zs.getD j false = atB pUntil x us vs j) := hz1
            have HZ2 : Hid (∀ j, j < m → zs.getD j false = ys.getD j false) := hz2
            have kz := hzrow.1
            clear hzl hzrow hz1 hz2
            by_cases hm0 : 0 < m
            · obtain ⟨i, rfl⟩ : ∃ i, m = i + 1 := ⟨m - 1, by omega⟩
              have hzi : z = (i : Int) := by omega
              clear hz
              subst hzi
              have hin : i < n := by omega
              have hii : (i : Int) ≥ 0 := by omega
              have hnle : ¬ ((n : Int) ≤ (i : Int)) := by omega
              obtain ⟨fi, hfi⟩ : ∃ b, us.getD i false = b := ⟨_, rfl⟩
              obtain ⟨gi, hgi⟩ : ∃ b, vs.getD i false = b := ⟨_, rfl⟩
              obtain ⟨li, hli⟩ : ∃ b, atB pUntil x us vs (i + 1) = b := ⟨_, rfl⟩
              obtain ⟨q, hq⟩ : ∃ q, (if i + 1 = n then hd.length else i + 1) = q := ⟨_, rfl⟩
              have hqn : q < n := by
                rw [← hq]
                by_cases e : i + 1 = n
                · rw [if_pos e]; exact hL
                · rw [if_neg e]; omega
              have hnq : ¬ ((n : Int) ≤ (q : Int)) := by omega
              have hzq : zs.getD q false = li := by
                rw [← hq, ← hli]
                by_cases e : i + 1 = n
                · rw [if_pos e, HZ2.out hd.length (by omega), HX.out, e, ← HUL.out, atB_end]
                · rw [if_neg e, HZ1.out (i + 1) (Nat.le_refl _) (by omega)]
              have hvi : pUntil fi gi li = atB pUntil x us vs i := by
                rw [atB_step _ _ _ _ i (by rw [HUL.out]; exact hin) (by rw [HVL.out]; exact hin), hli, ← hfi, ← hgi, List.getD_eq_getElem?_getD, List.getD_eq_getElem?_getD, List.getElem?_eq_getElem (by rw [HUL.out]; exact hin), List.getElem?_eq_getElem (by rw [HVL.out]; exact hin)]
                rfl
              have kwz := KW1.out.trans kz (fun _ _ f => f)
              have cf : wr.cell? ⟨bf, i, none⟩ = some (.bool fi) := by rw [← hfi]; exact (kwz.cell (lt_of_cell (HFC.out i hin)) (fun f => f)).trans (HFC.out i hin)
              have cg : wr.cell? ⟨bg, i, none⟩ = some (.bool gi) := by rw [← hgi]; exact (kwz.cell (lt_of_cell (HGC.out i hin)) (fun f => f)).trans (HGC.out i hin)
              have co := HZR.out.cell (i := q) (by rw [HZL.out]; exact hqn) hzq
              obtain ⟨cs, cz⟩ := HZR.out.2.2.2 i (by rw [HZL.out]; exact hin)
              have yr := Y1.out.kept kz (fun f => f)
              obtain ⟨yr0, yr1⟩ := yr
              have HWr : Hid (WordV B wr (.agg #[.slice ha hd.length hc, .slice la lp.length lc]) hd lp) := HW.out.kept kwz hB
              have hBr := Nat.le_trans hB kwz.size
              have HQ : Hid ((if i + 1 = n then hd.length else i + 1) = q) := hq
              have HREL : Hid (∀ (W : World) (b : Bool), b = pUntil fi gi li → ORow w1 W ob zs → ∃ (m : Nat) (zs' : List Bool) (z : Int), m ≤ n ∧ Value.int .i64 ((i : Int) - 1) = .int .i64 z ∧ z = (m : Int) - 1 ∧ zs'.length = n ∧ ORow w1 (W.setCell ⟨ob, i, none⟩ (.bool b)) ob zs' ∧ (∀ j, m ≤ j → j < n → zs'.getD j false = atB pUntil x us vs j) ∧ ∀ j, j < m → zs'.getD j false = ys.getD j false) := by
                intro W b hb hW
                refine ⟨i, zs.set i b, _, by omega, rfl, rfl, by rw [List.length_set, HZL.out], hW.set (by rw [HZL.out]; exact hin) b, fun j h1 h2 => ?_, fun j hj => ?_⟩
                · rw [List.getD_eq_getElem?_getD, List.getElem?_set]
                  by_cases e : i = j
                  · subst e
                    rw [if_pos rfl, if_pos (by rw [HZL.out]; exact hin), ← hvi, hb]
                    rfl
                  · rw [if_neg e, ← List.getD_eq_getElem?_getD]
                    exact HZ1.out j (by omega) h2
                · rw [List.getD_eq_getElem?_getD, List.getElem?_set, if_neg (by omega), ← List.getD_eq_getElem?_getD]
                  exact HZ2.out j (by omega)
              clear hfi hgi hli hq hzq hvi
              cases gi with
              | true =>
                go_wp2
                go_roundw
                case rel => exact HREL.out wr true (by cases fi <;> cases li <;> rfl) HZR.out
                case measure => simp [intOf]
              | false =>
                cases fi with
                | false =>
                  go_wp2
                  go_roundw
                  case rel => exact HREL.out wr false (by cases li <;> rfl) HZR.out
                  case measure => simp [intOf]
                | true =>
                  go_wp2_with (go_at_call 110; refine (behind112 _ B _ hd lp n i q hn hn2 hin HQ.out HWr.out hBr).mono ?_; rintro e w9 ⟨k9, rfl⟩; have co9 := (k9.cell (lt_of_cell co) (fun f => f)).trans co; have cs9 := (k9.cell (lt_of_cell cs) (fun f => f)).trans cs; have cz9 := (k9.frozen (lt_of_cell cs) (fun f => f)).trans cz)
                  go_roundw
                  case rel => exact HREL.out w9 li (by cases li <;> rfl) (HZR.out.kept k9)
                  case measure => simp [intOf]
            · obtain rfl : m = 0 := by omega
              have hzn : ¬ z ≥ 0 := by omega
              go_wp2
              go_roundw
              case rel =>
                have e : zs = sweep pUntil x us vs := by
                  apply List.ext_getElem?
                  intro j
                  by_cases hj : j < n
                  · have h1 := HZ1.out j (Nat.zero_le _) hj
                    have hjz : j < zs.length := by rw [HZL.out]; exact hj
                    have hjs : j < (sweep pUntil x us vs).length := by rw [sweep_len, HUL.out]; exact hj
                    rw [← sweep_get _ _ _ _ (by rw [HUL.out]; exact hj), List.getD_eq_getElem?_getD, List.getD_eq_getElem?_getD, List.getElem?_eq_getElem hjz, List.getElem?_eq_getElem hjs] at h1
                    rw [List.getElem?_eq_getElem hjz, List.getElem?_eq_getElem hjs]
                    exact congrArg some h1
                  · rw [List.getElem?_eq_none (by rw [HZL.out]; omega), List.getElem?_eq_none (by rw [sweep_len, HUL.out]; omega)]
                exact ⟨r + 1, zs, by omega, by go_num, HZL.out, HZR.out, fun h => by omega, fun h => by rw [e]; exact (HN1.out h).symm, fun h => by rw [e]; exact HN2.out h⟩
              case measure => simp [intOf]; omega
        · have hlei : ¬ (r : Int) ≤ (n : Int) := by omega
          have e := HG2.out (by omega)
          subst e
          go_wp2
          go_ret
          exact ⟨ob, rfl, HYR.out.rebase KW1.out⟩

set_option maxRecDepth 100000 in
set_option maxHeartbeats 8000000 in
theorem later111_9 (w : World) (B : Nat) (wv : Value) (hd lp : List Int) (us vs : List Bool) (bf bg : Nat) (hn2 : us.length ≤ 20000) (hn : hd.length + lp.length = us.length) (hv : vs.length = us.length) (hlp : 0 < lp.length) (hW : WordV B w wv hd lp) (hB : B ≤ w.heap.size) (hf : ∀ i, i < us.length → w.cell? ⟨bf, i, none⟩ = some (.bool (us.getD i false))) (hg : ∀ i, i < us.length → w.cell? ⟨bg, i, none⟩ = some (.bool (vs.getD i false))) :
    Calls Tryd.prog 109 #[wv, .int .i64 9, .slice (some ⟨bf, 0, none⟩) us.length us.length, .slice (some ⟨bg, 0, none⟩) us.length us.length] w fun e w' => ∃ b, e = .returned (.slice (some ⟨b, 0, none⟩) us.length us.length) ∧ ORow w w' b (backRow pRelease true us vs hd.length) := by
  obtain ⟨hv1, lv1, rfl, h1, h2⟩ := id hW
  obtain ⟨ha, hc, rfl, hl1⟩ := h1.form
  obtain ⟨la, lc, rfl, hl2⟩ := h2.form
  obtain ⟨n, hnn⟩ : ∃ n, us.length = n := ⟨_, rfl⟩
  rw [hnn] at hn2 hn hv hf hg ⊢
  have HUL : Hid (us.length = n) := hnn
  have HVL : Hid (vs.length = n) := hv
  clear hnn hv
  obtain ⟨W0, hW0⟩ : ∃ W0, W0 = w.alloc (.cells #[.slice ha hd.length hc, .slice la lp.length lc] 48) := ⟨_, rfl⟩
  have k0 : Kept (fun _ => False) w W0 := by rw [hW0]; exact (Kept.refl _ _).alloc _
  have y0 : Bx W0 w.heap.size (.slice ha hd.length hc) (.slice la lp.length lc) := by rw [hW0]; exact Bx.new w _ _ 48
  have HW : Hid (WordV B w (.agg #[.slice ha hd.length hc, .slice la lp.length lc]) hd lp) := hW
  have HW0 : Hid (WordV B W0 (.agg #[.slice ha hd.length hc, .slice la lp.length lc]) hd lp) := hW.kept k0 hB
  have HFC : Hid (∀ i, i < n → w.cell? ⟨bf, i, none⟩ = some (.bool (us.getD i false))) := hf
  have HGC : Hid (∀ i, i < n → w.cell? ⟨bg, i, none⟩ = some (.bool (vs.getD i false))) := hg
  obtain ⟨y00, y01⟩ := id y0
  clear hW h1 h2 hf hg
  go_enter Tryd.func109, Tryd.ntmps109
  go_upto_region 1 with fail
  rw [← hW0]
  clear hW0
  have hmk := make51 n hn2
  go_upto_region 3 with (go_at_call 44; refine (places44n _ B _ hd lp n hn HW0.out).mono ?_; rintro e w1 ⟨k1, rfl⟩)
  have kw1 := k0.trans k1 (fun _ _ f => f)
  have hR0 := ORow.new w1 n
  have Y1 : Hid (Bx w1 w.heap.size (.slice ha hd.length hc) (.slice la lp.length lc)) := y0.kept k1 (fun f => f)
  obtain ⟨ob, hob⟩ : ∃ ob, w1.heap.size = ob := ⟨_, rfl⟩
  rw [hob] at hR0 ⊢
  obtain ⟨W2, hW2⟩ : ∃ W2, W2 = w1.alloc (.cells (madeCells #[.bool false] n) 4) := ⟨_, rfl⟩
  rw [← hW2] at hR0 ⊢
  have HR0 : Hid (ORow w1 W2 ob (List.replicate n false)) := hR0
  have KW1 : Hid (Kept (fun _ => False) w w1) := kw1
  clear hmk y00 y01 hW2 hR0 kw1 k0 k1 y0 HW0 hob
  go_wp2
  go_loopw [11] (fun v11 wr => ∃ (k : Nat) (xs : List Bool), k ≤ n ∧ v11 = .int .i64 (k : Int) ∧ xs.length = n ∧ ORow w1 wr ob xs ∧ ∀ j, j < k → xs.getD j false = true) (fun v11 _ => n - (intOf v11).toNat)
  case atStart => exact ⟨0, List.replicate n false, Nat.zero_le _, rfl, by simp, HR0.out, fun j hj => absurd hj (by omega)⟩
  case round =>
    obtain ⟨k, xs, hk, rfl, hxl, hrow, hst⟩ := hrel
    have HROW : Hid (ORow w1 wr ob xs) := hrow
    have HST : Hid (∀ j, j < k → xs.getD j false = true) := hst
    have HXL : Hid (xs.length = n) := hxl
    clear hrow hst hxl
    by_cases hlt : k < n
    · have hlti : (k : Int) < (n : Int) := by omega
      obtain ⟨cc, cf⟩ := HROW.out.2.2.2 k (by rw [HXL.out]; exact hlt)
      go_wp2
      go_roundw
      case rel =>
        refine ⟨k + 1, xs.set k true, by omega, by go_num, by rw [List.length_set, HXL.out], HROW.out.set (by rw [HXL.out]; exact hlt) true, fun j hj => ?_⟩
        rw [List.getD_eq_getElem?_getD, List.getElem?_set]
        by_cases e : k = j
        · subst e
          simp [HXL.out, hlt]
        · rw [if_neg e, ← List.getD_eq_getElem?_getD]
          exact HST.out j (by omega)
      case measure => simp [intOf]; omega
    · have hlti : ¬ (k : Int) < (n : Int) := by omega
      have hL : hd.length < n := by omega
      go_wp2
      go_loopw [12, 13] (fun v12 _ ws => ∃ (r : Nat) (ys : List Bool), r ≤ n + 1 ∧ v12 = .int .i64 (r : Int) ∧ ys.length = n ∧ ORow w1 ws ob ys ∧ (r = 0 → ys.getD hd.length false = true) ∧ (r = 1 → ys = sweep pRelease true us vs) ∧ (2 ≤ r → ys = backRow pRelease true us vs hd.length)) (fun v12 _ _ => n + 1 - (intOf v12).toNat)
      case atStart => exact ⟨0, xs, Nat.zero_le _, rfl, HXL.out, HROW.out, fun _ => HST.out hd.length (by omega), fun h => by omega, fun h => by omega⟩
      case round =>
        obtain ⟨r, ys, hr, rfl, hyl, hyrow, g0, g1, g2⟩ := hrel
        obtain ⟨x, hx⟩ : ∃ x, ys.getD hd.length false = x := ⟨_, rfl⟩
        have hUL := HUL.out
        have hVL := HVL.out
        have HN1 : Hid (r + 1 = 1 → sweep pRelease true us vs = sweep pRelease x us vs) := fun h => by rw [← hx, g0 (by omega)]
        have HN2 : Hid (2 ≤ r + 1 → sweep pRelease x us vs = backRow pRelease true us vs hd.length) := fun h => by
          rw [back_sweep, ← hx]
          by_cases e : r = 1
          · rw [g1 e, sweep_get _ _ _ _ (by omega)]
          · rw [g2 (by omega), back_sweep, sweep_get _ _ _ _ (by omega)]
            rw [show true = (!false) from rfl, back_stays pass_release (by omega) (by omega)]
        have HG2 : Hid (2 ≤ r → ys = backRow pRelease true us vs hd.length) := g2
        have HYR : Hid (ORow w1 wr ob ys) := hyrow
        have HYL : Hid (ys.length = n) := hyl
        have HX : Hid (ys.getD hd.length false = x) := hx
        clear g0 g1 g2 hyrow hyl hx hUL hVL HROW HST HXL
        by_cases hle : r ≤ n
        · have hlei : (r : Int) ≤ (n : Int) := by omega
          go_wp2
          go_loopw [13] (fun v13 wt => ∃ (m : Nat) (zs : List Bool) (z : Int), m ≤ n ∧ v13 = .int .i64 z ∧ z = (m : Int) - 1 ∧ zs.length = n ∧ ORow w1 wt ob zs ∧ (∀ j, m ≤ j → j < n → zs.getD j false = atB pRelease x us vs j) ∧ ∀ j, j < m → zs.getD j false = ys.getD j false) (fun v13 _ => (intOf v13 + 1).toNat)
          case atStart => exact ⟨n, ys, _, Nat.le_refl _, rfl, rfl, HYL.out, HYR.out, fun j h1 h2 => absurd h1 (by omega), fun j hj => rfl⟩
          case round =>
            obtain ⟨m, zs, z, hm, rfl, hz, hzl, hzrow, hz1, hz2⟩ := hrel
            have HZR : Hid (ORow w1 wr ob zs) := hzrow
            have HZL : Hid (zs.length = n) := hzl
            have HZ1 : Hid (∀ j, m ≤ j → j < n → zs.getD j false = atB pRelease x us vs j) := hz1
            have HZ2 : Hid (∀ j, j < m → zs.getD j false = ys.getD j false) := hz2
            have kz := hzrow.1
            clear hzl hzrow hz1 hz2
            by_cases hm0 : 0 < m
            · obtain ⟨i, rfl⟩ : ∃ i, m = i + 1 := ⟨m - 1, by omega⟩
              have hzi : z = (i : Int) := by omega
              clear hz
              subst hzi
              have hin : i < n := by omega
              have hii : (i : Int) ≥ 0 := by omega
              have hnle : ¬ ((n : Int) ≤ (i : Int)) := by omega
              obtain ⟨fi, hfi⟩ : ∃ b, us.getD i false = b := ⟨_, rfl⟩
              obtain ⟨gi, hgi⟩ : ∃ b, vs.getD i false = b := ⟨_, rfl⟩
              obtain ⟨li, hli⟩ : ∃ b, atB pRelease x us vs (i + 1) = b := ⟨_, rfl⟩
              obtain ⟨q, hq⟩ : ∃ q, (if i + 1 = n then hd.length else i + 1) = q := ⟨_, rfl⟩
              have hqn : q < n := by
                rw [← hq]
                by_cases e : i + 1 = n
                · rw [if_pos e]; exact hL
                · rw [if_neg e]; omega
              have hnq : ¬ ((n : Int) ≤ (q : Int)) := by omega
              have hzq : zs.getD q false = li := by
                rw [← hq, ← hli]
                by_cases e : i + 1 = n
                · rw [if_pos e, HZ2.out hd.length (by omega), HX.out, e, ← HUL.out, atB_end]
                · rw [if_neg e, HZ1.out (i + 1) (Nat.le_refl _) (by omega)]
              have hvi : pRelease fi gi li = atB pRelease x us vs i := by
                rw [atB_step _ _ _ _ i (by rw [HUL.out]; exact hin) (by rw [HVL.out]; exact hin), hli, ← hfi, ← hgi, List.getD_eq_getElem?_getD, List.getD_eq_getElem?_getD, List.getElem?_eq_getElem (by rw [HUL.out]; exact hin), List.getElem?_eq_getElem (by rw [HVL.out]; exact hin)]
                rfl
              have kwz := KW1.out.trans kz (fun _ _ f => f)
              have cf : wr.cell? ⟨bf, i, none⟩ = some (.bool fi) := by rw [← hfi]; exact (kwz.cell (lt_of_cell (HFC.out i hin)) (fun f => f)).trans (HFC.out i hin)
              have cg : wr.cell? ⟨bg, i, none⟩ = some (.bool gi) := by rw [← hgi]; exact (kwz.cell (lt_of_cell (HGC.out i hin)) (fun f => f)).trans (HGC.out i hin)
              have co := HZR.out.cell (i := q) (by rw [HZL.out]; exact hqn) hzq
              obtain ⟨cs, cz⟩ := HZR.out.2.2.2 i (by rw [HZL.out]; exact hin)
              have yr := Y1.out.kept kz (fun f => f)
              obtain ⟨yr0, yr1⟩ := yr
              have HWr : Hid (WordV B wr (.agg #[.slice ha hd.length hc, .slice la lp.length lc]) hd lp) := HW.out.kept kwz hB
              have hBr := Nat.le_trans hB kwz.size
              have HQ : Hid ((if i + 1 = n then hd.length else i + 1) = q) := hq
              have HREL : Hid (∀ (W : World) (b : Bool), b = pRelease fi gi li → ORow w1 W ob zs → ∃ (m : Nat) (zs' : List Bool) (z : Int), m ≤ n ∧ Value.int .i64 ((i : Int) - 1) = .int .i64 z ∧ z = (m : Int) - 1 ∧ zs'.length = n ∧ ORow w1 (W.setCell ⟨ob, i, none⟩ (.bool b)) ob zs' ∧ (∀ j, m ≤ j → j < n → zs'.getD j false = atB pRelease x us vs j) ∧ ∀ j, j < m → zs'.getD j false = ys.getD j false) := by
                intro W b hb hW
                refine ⟨i, zs.set i b, _, by omega, rfl, rfl, by rw [List.length_set, HZL.out], hW.set (by rw [HZL.out]; exact hin) b, fun j h1 h2 => ?_, fun j hj => ?_⟩
                · rw [List.getD_eq_getElem?_getD, List.getElem?_set]
                  by_cases e : i = j
                  · subst e
                    rw [if_pos rfl, if_pos (by rw [HZL.out]; exact hin), ← hvi, hb]
                    rfl
                  · rw [if_neg e, ← List.getD_eq_getElem?_getD]
                    exact HZ1.out j (by omega) h2
                · rw [List.getD_eq_getElem?_getD, List.getElem?_set, if_neg (by omega), ← List.getD_eq_getElem?_getD]
                  exact HZ2.out j (by omega)
              clear hfi hgi hli hq hzq hvi
              cases gi with
              | false =>
                go_wp2
                go_roundw
                case rel => exact HREL.out wr false (by cases fi <;> cases li <;> rfl) HZR.out
                case measure => simp [intOf]
              | true =>
                cases fi with
                | true =>
                  go_wp2
                  go_roundw
                  case rel => exact HREL.out wr true (by cases li <;> rfl) HZR.out
                  case measure => simp [intOf]
                | false =>
                  go_wp2_with (go_at_call 110; refine (behind112 _ B _ hd lp n i q hn hn2 hin HQ.out HWr.out hBr).mono ?_; rintro e w9 ⟨k9, rfl⟩; have co9 := (k9.cell (lt_of_cell co) (fun f => f)).trans co; have cs9 := (k9.cell (lt_of_cell cs) (fun f => f)).trans cs; have cz9 := (k9.frozen (lt_of_cell cs) (fun f => f)).trans cz)
                  go_roundw
                  case rel => exact HREL.out w9 li (by cases li <;> rfl) (HZR.out.kept k9)
                  case measure => simp [intOf]
            · obtain rfl : m = 0 := by omega
              have hzn : ¬ z ≥ 0 := by omega
              go_wp2
              go_roundw
              case rel =>
                have e : zs = sweep pRelease x us vs := by
                  apply List.ext_getElem?
                  intro j
                  by_cases hj : j < n
                  · have h1 := HZ1.out j (Nat.zero_le _) hj
                    have hjz : j < zs.length := by rw [HZL.out]; exact hj
                    have hjs : j < (sweep pRelease x us vs).length := by rw [sweep_len, HUL.out]; exact hj
                    rw [← sweep_get _ _ _ _ (by rw [HUL.out]; exact hj), List.getD_eq_getElem?_getD, List.getD_eq_getElem?_getD, List.getElem?_eq_getElem hjz, List.getElem?_eq_getElem hjs] at h1
                    rw [List.getElem?_eq_getElem hjz, List.getElem?_eq_getElem hjs]
                    exact congrArg some h1
                  · rw [List.getElem?_eq_none (by rw [HZL.out]; omega), List.getElem?_eq_none (by rw [sweep_len, HUL.out]; omega)]
                exact ⟨r + 1, zs, by omega, by go_num, HZL.out, HZR.out, fun h => by omega, fun h => by rw [e]; exact (HN1.out h).symm, fun h => by rw [e]; exact HN2.out h⟩
              case measure => simp [intOf]; omega
        · have hlei : ¬ (r : Int) ≤ (n : Int) := by omega
          have e := HG2.out (by omega)
          subst e
          go_wp2
          go_ret
          exact ⟨ob, rfl, HYR.out.rebase KW1.out⟩
end Go.Proofs.YtdbpdanocpfboaaDoor
