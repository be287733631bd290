import Derived.Test.YtdbpdanocpfboabGreatDoorZBun06
import Derived.Test.YtdbpdanocpfboabGreatDoorZStp
/- The program's reader of a line: draft.read. -/
namespace Go.Proofs.YtdbpdanocpfboabGreatDoor
open Go.RowKit

/-- the cells of a draft -/
def CD (nv lv av bv : Value) : Array Value := #[nv, lv, .slice none 0 0, av, bv]
/-- what read leaves -/
def Post26 (w0 : World) (M : Nat) (st : PSt) (k : Nat) (ws : List ByteArray) (gv : Value) (gs : List Value) (e : Ending) (w' : World) : Prop :=
  (ws = [] ∧ e = .returned (.int .i64 0) ∧ ∃ nv lv av bv rs, RQ 56 CD w0 M nv lv av bv st rs w' ∧ LsS (SB nv w') w' gv gs) ∨
  (ws ≠ [] ∧ lineE st.names ws ≠ 0 ∧ e = .returned (.int .i64 (lineE st.names ws)) ∧ Kept (fun _ => False) w0 w') ∨
  (ws ≠ [] ∧ lineE st.names ws = 0 ∧ e = .returned (.int .i64 0) ∧ ∃ nv lv av bv rs, RQ 56 CD w0 M nv lv av bv (st.push k ws) rs w' ∧ LsS (SB nv w') w' gv gs)
theorem formB_false {names ws : List ByteArray} (h : formB ws = false) : lineE names ws = 2 := by rw [lineE, if_pos h]
theorem lineE_rest {names ws : List ByteArray} (h : formB ws = true) : lineE names ws = if (if (memB (ws.getD 0 nil) names || !decide ((ws.drop 3).Nodup)) then (5 : Int) else 0) ≠ 0 then (if (memB (ws.getD 0 nil) names || !decide ((ws.drop 3).Nodup)) then 5 else 0) else (if names.length == 12 then 4 else 0) := by
  rw [lineE, if_neg (by rw [h]; simp), twiceB]
  cases (memB (ws.getD 0 nil) names || !decide ((ws.drop 3).Nodup)) with
  | true => simp
  | false => simp
theorem wordsL_pos {s : ByteArray} : ∀ x ∈ wordsL s, 0 < x.size := fun x h => by
  have := (List.mem_filter.1 h).2
  simp only [decide_eq_true_eq] at this
  rcases Nat.eq_zero_or_pos x.size with h0 | h0
  · exact absurd (dl_inj (List.length_eq_zero_iff.1 (by simpa [dl] using h0) : dl x = [])) this
  · exact h0

set_option maxHeartbeats 1000000 in
theorem step_call53 {ops : Array Oper} {o : Oper} {a : Act} {w : World} {K : Act → World → Prop} {Q : Exit → Act → World → Prop} {E : Prop} {R : Ending → World → Prop}
    (hg : o.guard = none) (x : Operand) (t : Array TypeId) (hop : o.op = Op.call { callee := .value (.func 53), args := #[x], argTypes := t }) (v : Value) (hx : a.eval x = v)
    (hc : Calls Tryz.prog 53 #[v] w R) (hK : ∀ e w', R e w' → ∃ u, e = .returned u ∧ K (a.put o.dst u) w') : if Region.wanted o (yielded ops a.tmps) = true then Oper.wp Tryz.prog o a w K Q else E := by
  have hw : Region.wanted o (yielded ops a.tmps) = true := by simp [Region.wanted, hg]
  rw [if_pos hw]
  have he : (execOp a.eval o).run Tryz.prog w = .ok (.enter 53 #[v]) w := by
    have hx' : a.eval (.func 53) = .func (.func 53) #[] #[] := rfl
    have hn : ¬ Tryz.f53.name = "runtime.NumGoroutine" := by
      have : (Tryz.f53.name == "runtime.NumGoroutine") = false := by kernel_rfl
      simpa using this
    have hb : ¬ Tryz.f53.body = none := by
      have : Tryz.f53.body.isNone = false := by kernel_rfl
      intro h
      rw [h] at this
      simp at this
    simp [execOp, hop, resolve, invoke, hx, hx', Deferred.ofValue, callFunc, Tryz.func53, hn, hb]
  unfold Oper.wp
  rw [he]
  refine hc.mono fun e w' hR => ?_
  obtain ⟨u, rfl, hk⟩ := hK e w' hR
  exact hk

set_option maxRecDepth 100000 in
set_option maxHeartbeats 8000000 in
theorem read26 (w0 w : World) (M : Nat) (nv lv av bv : Value) (st : PSt) (rs : List Value) (k : Nat) (x : ByteArray) (hq : RQ 56 CD w0 M nv lv av bv st rs w) (hx : x.size ≤ 1000) (hok : st.Ok k) (hk : k ≤ 1001) (gv : Value) (gs : List Value) (hgv : LsS (SB nv w) w gv gs) :
    Calls Tryz.prog 26 #[.pointer (some ⟨M, 0, none⟩), .string x, .int .i64 ((k : Int) + 1)] w (Post26 w0 M st k (wordsL x) gv gs) := by
  have hnl := hok.n
  obtain ⟨na, nc, hnv, _⟩ := (own_ls hq.n (by simp; omega)).form
  simp only [List.length_map] at hnv
  subst hnv
  have HQ : Hid (RQ 56 CD w0 M (.slice na st.names.length nc) lv av bv st rs w) := hq
  have HG0 : Hid (LsS (SB (.slice na st.names.length nc) w) w gv gs) := hgv
  have HOK : Hid (st.Ok k) := hok
  have hwl := wordsL_len x
  have HWS : Hid (∀ y ∈ wordsL x, 0 < y.size ∧ y.size ≤ 1000) := fun y hy => ⟨wordsL_pos y hy, Nat.le_trans (wordsL_size x y hy) hx⟩
  clear hq hok hgv
  go_enter Tryz.func26, Tryz.ntmps26
  go_upto_region 2 with (go_at_call 45; refine (fields45 w x hx).mono ?_; rintro e w1 ⟨wv, rfl, hr1, k1⟩)
  generalize hws : wordsL x = ws at *
  have hwv : StrsV w1.heap.size w1 wv ws := own_ls hr1 (by simp; omega)
  obtain ⟨wa, wcp, rfl, _⟩ := hwv.form
  have HWV : Hid (StrsV w1.heap.size w1 (.slice wa ws.length wcp) ws) := hwv
  have HQ1 : Hid (RQ 56 CD w0 M (.slice na st.names.length nc) lv av bv st rs w1) := HQ.out.new k1
  have HWL1 : Hid (LsS (SB (.slice na st.names.length nc) w1) w1 (.slice wa ws.length wcp) (ws.map Value.string)) := HQ.out.rowOwn hr1 (by simp; omega)
  have HG1 : Hid (LsS (SB (.slice na st.names.length nc) w1) w1 gv gs) := rowNew k1 HG0.out
  clear hwv hr1
  by_cases hw0 : ws = []
  · subst hw0
    go_wp2
    go_ret
    exact .inl ⟨rfl, rfl, _, _, _, _, _, HQ1.out, HG1.out⟩
  have hwp : 0 < ws.length := List.length_pos_iff.2 hw0
  have hwb : ((ws.length : Int) == 0) = false := by simp; omega
  have HNE : Hid (ws ≠ []) := hw0
  clear hw0
  cases hfo : formB ws with
  | false =>
    have HE : Hid (lineE st.names ws = 2) := formB_false hfo
    go_wp2_with (go_at_call 47; refine (formed47 w1 w1.heap.size _ ws HWV.out (Nat.le_refl _) HWS.out).mono ?_; rw [hfo]; rintro e w2 ⟨k2, rfl⟩)
    go_ret
    refine .inr (.inl ⟨HNE.out, by rw [HE.out]; decide, by rw [HE.out]; rfl, HQ1.out.kept.trans k2 (fun _ _ f => f)⟩)
  | true =>
    have h4 : 4 ≤ ws.length := formB_len hfo
    have HFO : Hid (formB ws = true) := hfo
    go_upto_region 6 with (go_at_call 47; refine (formed47 w1 w1.heap.size _ ws HWV.out (Nat.le_refl _) HWS.out).mono ?_; rw [HFO.out]; rintro e w2 ⟨k2, rfl⟩)
    clear hfo
    have HQ2 : Hid (RQ 56 CD w0 M (.slice na st.names.length nc) lv av bv st rs w2) := HQ1.out.new k2
    have HWL2 : Hid (LsS (SB (.slice na st.names.length nc) w2) w2 (.slice wa ws.length wcp) (ws.map Value.string)) := rowNew k2 HWL1.out
    have HG2 : Hid (LsS (SB (.slice na st.names.length nc) w2) w2 gv gs) := rowNew k2 HG1.out
    have HWV2 : Hid (StrsV w2.heap.size w2 (.slice wa ws.length wcp) ws) := LsV.new HWV.out k2
    obtain ⟨wb, wo, rfl, _, hc0⟩ := StrsV.cell HWV2.out (i := 0) (by omega)
    rw [Nat.add_zero] at hc0
    have hL0 : (0 : Int) < (ws.length : Int) := by omega
    have hL3 : (3 : Int) ≤ (ws.length : Int) := by omega
    have hcap : ws.length ≤ wcp := by have := HWL2.out.cap; simpa using this
    have hc3 : ¬ wcp = 3 := by omega
    obtain ⟨nm, hnm⟩ : ∃ nm, ws[0] = nm := ⟨_, rfl⟩
    rw [hnm] at hc0
    have hg0 : ws.getD 0 nil = nm := by rw [← hnm]; simp [List.getD, hwp]
    clear k1 k2
    have U0 : ∀ U : KW w2, U.1.cell? ⟨wb, wo, none⟩ = some (.string nm) := fun U => U.cell hc0
    refine wp_region_quiet_kept (by kernel_rfl) (by kernel_rfl) ?_
    repeat (refine wpQuiet_step (fun K hK => ?_); go_simp; first | (refine hK _ ?_; clear hK K))
    refine wpQuiet_nil ?_
    intro w3 hw'
    have k3 : Kept (fun _ => False) w2 w3 := by
      obtain ⟨U, rfl⟩ := hw'
      exact U.2
    clear hw' U0
    have HQ3 : Hid (RQ 56 CD w0 M (.slice na st.names.length nc) lv av bv st rs w3) := HQ2.out.new k3
    have HWL3 : Hid (LsS (SB (.slice na st.names.length nc) w3) w3 (.slice (some ⟨wb, wo, none⟩) ws.length wcp) (ws.map Value.string)) := rowNew k3 HWL2.out
    have HG3 : Hid (LsS (SB (.slice na st.names.length nc) w3) w3 gv gs) := rowNew k3 HG2.out
    have HWV3 : Hid (StrsV w3.heap.size w3 (.slice (some ⟨wb, wo, none⟩) ws.length wcp) ws) := LsV.new HWV2.out k3
    clear k3 hc0
    go_upto_region 7 with fail
    have HC0 : Hid (∀ W, Kept (fun _ => False) w3 W → W.cell? ⟨M, 0, none⟩ = some (.slice na st.names.length nc)) := fun W hk => (hk.cell (p := ⟨M, 0, none⟩) (lt_of_cell (blk_cell HQ3.out.blk 0)) (fun f => f)).trans (blk_cell HQ3.out.blk 0)
    have HBH : Hid (StrsV w3.heap.size w3 (.slice (some ⟨wb, wo + 3, none⟩) (ws.length - 3) (wcp - 3)) (ws.drop 3)) := by
      have := StrsV.sub HWV3.out (i := 3) (j := ws.length) (by omega) (Nat.le_refl _)
      rwa [List.take_of_length_le (by simp)] at this
    obtain ⟨dn, hdn⟩ : ∃ dn, decide ((ws.drop 3).Nodup) = dn := ⟨_, rfl⟩
    obtain ⟨l12, hl12⟩ : ∃ l12, ((st.names.length : Int) == 12) = l12 := ⟨_, rfl⟩
    obtain ⟨x4, hx4⟩ : ∃ x4 : Int, (if l12 then 4 else 0) = x4 := ⟨_, rfl⟩
    have HC51 : Hid (∀ W, Kept (fun _ => False) w3 W → Calls Tryz.prog 51 #[.slice (some ⟨wb, wo + 3, none⟩) (ws.length - 3) (wcp - 3)] W fun e W' => ∃ v, e = .returned v ∧ Kept (fun _ => False) W W' ∧ v = .bool dn) := fun W hk => (distinct51 W w3.heap.size _ (ws.drop 3) (by simp; omega) (HBH.out.kept hk (Nat.le_refl _)) hk.size).mono (fun e W' h => ⟨_, h.1, h.2, by rw [hdn]⟩)
    have HC49b : Hid (∀ W, Kept (fun _ => False) w3 W → Calls Tryz.prog 49 #[.bool l12, .int .i64 4] W fun e W' => ∃ v, e = .returned v ∧ Kept (fun _ => False) W W' ∧ v = .int .i64 x4) := fun W hk => (refusal49 W l12 4).mono (fun e W' h => ⟨_, h.1, by rw [h.2]; exact Kept.refl _ _, by rw [hx4]⟩)
    have HN3 : Hid (StrsV w3.heap.size w3 (.slice na st.names.length nc) st.names) := own_ls HQ3.out.n (by simp; omega)
    have HE : Hid _ := lineE_rest (names := st.names) HFO.out
    rw [hg0, hdn] at HE
    have hl12' : (st.names.length == 12) = l12 := by rw [← hl12, Bool.eq_iff_iff]; simp; omega
    rw [hl12', hx4] at HE
    go_cut [10] (fun v10 wd => v10 = .int .i64 (lineE st.names ws) ∧ Kept (fun _ => False) w3 wd)
    case first =>
      cases hc : memB nm st.names with
      | true =>
        obtain ⟨x5, hx5⟩ : ∃ x5 : Int, x5 = 5 := ⟨_, rfl⟩
        obtain ⟨xo, hxo⟩ : ∃ xo : Int, (if x5 ≠ 0 then x5 else x4) = xo := ⟨_, rfl⟩
        have HC50 : Hid (∀ W, Kept (fun _ => False) w3 W → Calls Tryz.prog 50 #[.slice na st.names.length nc, .string nm] W fun e W' => ∃ v, e = .returned v ∧ Kept (fun _ => False) W W' ∧ v = .bool true) := fun W hk => (contains50 W w3.heap.size _ st.names nm (HN3.out.kept hk (Nat.le_refl _))).mono (fun e W' h => ⟨_, h.1, by rw [h.2]; exact Kept.refl _ _, by rw [hc]⟩)
        have HC49a : Hid (∀ W, Kept (fun _ => False) w3 W → Calls Tryz.prog 49 #[.bool true, .int .i64 5] W fun e W' => ∃ v, e = .returned v ∧ Kept (fun _ => False) W W' ∧ v = .int .i64 x5) := fun W hk => (refusal49 W true 5).mono (fun e W' h => ⟨_, h.1, by rw [h.2]; exact Kept.refl _ _, by rw [hx5]; rfl⟩)
        have HXO : Hid (lineE st.names ws = xo) := by rw [Hid, HE.out, hc, ← hxo, hx5]; rfl
        clear HE
        refine wp_region_N [26, 27, 28, 29, 30, 31, 32, 33, 34, 35, 36, 37, 38, 39, 40, 41, 42, 43, 44, 45, 46, 47, 48, 10] (fun i v W => match i with
            | 0 => v = .pointer (some ⟨M, 0, none⟩)
            | 1 => v = .pointer (some ⟨M, 0, none⟩)
            | 2 => v = .pointer (some ⟨M, 0, none⟩)
            | 3 => v = .pointer (some ⟨M, 0, none⟩)
            | 4 => v = .slice na st.names.length nc
            | 5 => v = .string nm
            | 6 => v = .bool true
            | 7 => v = .bool true
            | 8 => True
            | 9 => True
            | 10 => True
            | 11 => v = .bool true
            | 12 => v = .int .i64 x5
            | 13 => v = .pointer (some ⟨M, 0, none⟩)
            | 14 => v = .pointer (some ⟨M, 0, none⟩)
            | 15 => v = .pointer (some ⟨M, 0, none⟩)
            | 16 => v = .pointer (some ⟨M, 0, none⟩)
            | 17 => v = .slice na st.names.length nc
            | 18 => v = .int .i64 (st.names.length : Int)
            | 19 => v = .bool l12
            | 20 => v = .int .i64 x4
            | 21 => ∃ g, v = .slice (some ⟨g, 0, none⟩) 2 2 ∧ W.cell? ⟨g, 0, none⟩ = some (.int .i64 x5) ∧ W.cell? ⟨g, 1, none⟩ = some (.int .i64 x4)
            | 22 => v = .int .i64 xo
            | 23 => v = .int .i64 xo
            | _ => True) rfl (by kernel_rfl) (by decide) (by kernel_rfl) ?_ ⟨?_, ?_, ?_, ?_, ?_, ?_, ?_, ?_, ?_, ?_, ?_, ?_, ?_, ?_, ?_, ?_, ?_, ?_, ?_, ?_, ?_, ?_, ?_, ?_, trivial⟩ ?_
        · intro i v W W' hk h
          match i with
          | 0 => exact h
          | 1 => exact h
          | 2 => exact h
          | 3 => exact h
          | 4 => exact h
          | 5 => exact h
          | 6 => exact h
          | 7 => exact h
          | 8 => exact h
          | 9 => exact h
          | 10 => exact h
          | 11 => exact h
          | 12 => exact h
          | 13 => exact h
          | 14 => exact h
          | 15 => exact h
          | 16 => exact h
          | 17 => exact h
          | 18 => exact h
          | 19 => exact h
          | 20 => exact h
          | 21 =>
            obtain ⟨g, e, h1, h2⟩ := h
            exact ⟨g, e, (hk.cell (lt_of_cell h1) (fun f => f)).trans h1, (hk.cell (lt_of_cell h2) (fun f => f)).trans h2⟩
          | 22 => exact h
          | 23 => exact h
          | n + 24 => trivial
        · refine stepN_val (v := .pointer (some ⟨M, 0, none⟩)) rfl (fun a W h => ?_) (fun W _ => rfl)
          have e0 : a.eval (.tmp 0) = _ := h.old 0 (by decide)
          revert e0; generalize a.eval = ρ; intro e0
          simp [execOp, go_sem, e0]
        · refine stepN_val (v := .pointer (some ⟨M, 0, none⟩)) rfl (fun a W h => ?_) (fun W _ => rfl)
          have e0 : a.eval (.tmp 26) = _ := h.dep 0 26 (by simp) rfl (of_decide_eq_true rfl)
          revert e0; generalize a.eval = ρ; intro e0
          simp [execOp, go_sem, e0]
        · refine stepN_val (v := .pointer (some ⟨M, 0, none⟩)) rfl (fun a W h => ?_) (fun W _ => rfl)
          have e0 : a.eval (.tmp 27) = _ := h.dep 1 27 (by simp) rfl (of_decide_eq_true rfl)
          revert e0; generalize a.eval = ρ; intro e0
          simp [execOp, go_sem, e0]
        · refine stepN_val (v := .pointer (some ⟨M, 0, none⟩)) rfl (fun a W h => ?_) (fun W _ => rfl)
          have e0 : a.eval (.tmp 28) = _ := h.dep 2 28 (by simp) rfl (of_decide_eq_true rfl)
          revert e0; generalize a.eval = ρ; intro e0
          simp [execOp, go_sem, e0]
        · refine stepN_val (v := .slice na st.names.length nc) rfl (fun a W h => ?_) (fun W _ => rfl)
          have e0 : a.eval (.tmp 29) = _ := h.dep 3 29 (by simp) rfl (of_decide_eq_true rfl)
          have c0 := HC0.out W h.1
          revert e0; generalize a.eval = ρ; intro e0
          simp [execOp, go_sem, e0, c0]
        · refine stepN_val (v := .string nm) rfl (fun a W h => ?_) (fun W _ => rfl)
          have e0 : a.eval (.tmp 8) = _ := h.old 8 (by decide)
          revert e0; generalize a.eval = ρ; intro e0
          simp [execOp, go_sem, e0]
        · refine stepN_call rfl (fun a W h => ⟨50, #[.slice na st.names.length nc, .string nm], ?_, HC50.out W h.1⟩)
          have e0 : a.eval (.tmp 30) = _ := h.dep 4 30 (by simp) rfl (of_decide_eq_true rfl)
          have e1 : a.eval (.tmp 31) = _ := h.dep 5 31 (by simp) rfl (of_decide_eq_true rfl)
          have hf : a.eval (.func 50) = .func (.func 50) #[] #[] := rfl
          revert e0 e1 hf; generalize a.eval = ρ; intro e0 e1 hf
          simp [execOp, go_sem, e0, e1, hf]
        · refine stepN_val (v := .bool true) rfl (fun a W h => ?_) (fun W _ => rfl)
          have e0 : a.eval (.tmp 32) = _ := h.dep 6 32 (by simp) rfl (of_decide_eq_true rfl)
          revert e0; generalize a.eval = ρ; intro e0
          simp [execOp, go_sem, e0]
        · exact stepN_no (j := 7) (d := 33) (b := false) (c := true) rfl (by simp) rfl (of_decide_eq_true rfl) (fun _ _ h => h) (by decide) (fun _ _ => trivial)
        · exact stepN_no (j := 7) (d := 33) (b := false) (c := true) rfl (by simp) rfl (of_decide_eq_true rfl) (fun _ _ h => h) (by decide) (fun _ _ => trivial)
        · exact stepN_no (j := 7) (d := 33) (b := false) (c := true) rfl (by simp) rfl (of_decide_eq_true rfl) (fun _ _ h => h) (by decide) (fun _ _ => trivial)
        · refine stepN_val (v := .bool true) rfl (fun a W h => ?_) (fun W _ => rfl)
          have e0 : a.eval (.tmp 33) = _ := h.dep 7 33 (by simp) rfl (of_decide_eq_true rfl)
          have e1 : a.eval (.const (.bool true)) = .bool true := rfl
          revert e0 e1; generalize a.eval = ρ; intro e0 e1
          simp [execOp, go_sem, e0, e1]
        · refine stepN_call rfl (fun a W h => ⟨49, #[.bool true, .int .i64 5], ?_, HC49a.out W h.1⟩)
          have e0 : a.eval (.tmp 37) = _ := h.dep 11 37 (by simp) rfl (of_decide_eq_true rfl)
          have e1 : a.eval (.const (.int .i64 5)) = .int .i64 5 := rfl
          have hf : a.eval (.func 49) = .func (.func 49) #[] #[] := rfl
          revert e0 e1 hf; generalize a.eval = ρ; intro e0 e1 hf
          simp [execOp, go_sem, e0, e1, hf]
        · refine stepN_val (v := .pointer (some ⟨M, 0, none⟩)) rfl (fun a W h => ?_) (fun W _ => rfl)
          have e0 : a.eval (.tmp 0) = _ := h.old 0 (by decide)
          revert e0; generalize a.eval = ρ; intro e0
          simp [execOp, go_sem, e0]
        · refine stepN_val (v := .pointer (some ⟨M, 0, none⟩)) rfl (fun a W h => ?_) (fun W _ => rfl)
          have e0 : a.eval (.tmp 39) = _ := h.dep 13 39 (by simp) rfl (of_decide_eq_true rfl)
          revert e0; generalize a.eval = ρ; intro e0
          simp [execOp, go_sem, e0]
        · refine stepN_val (v := .pointer (some ⟨M, 0, none⟩)) rfl (fun a W h => ?_) (fun W _ => rfl)
          have e0 : a.eval (.tmp 40) = _ := h.dep 14 40 (by simp) rfl (of_decide_eq_true rfl)
          revert e0; generalize a.eval = ρ; intro e0
          simp [execOp, go_sem, e0]
        · refine stepN_val (v := .pointer (some ⟨M, 0, none⟩)) rfl (fun a W h => ?_) (fun W _ => rfl)
          have e0 : a.eval (.tmp 41) = _ := h.dep 15 41 (by simp) rfl (of_decide_eq_true rfl)
          revert e0; generalize a.eval = ρ; intro e0
          simp [execOp, go_sem, e0]
        · refine stepN_val (v := .slice na st.names.length nc) rfl (fun a W h => ?_) (fun W _ => rfl)
          have e0 : a.eval (.tmp 42) = _ := h.dep 16 42 (by simp) rfl (of_decide_eq_true rfl)
          have c0 := HC0.out W h.1
          revert e0; generalize a.eval = ρ; intro e0
          simp [execOp, go_sem, e0, c0]
        · refine stepN_val (v := .int .i64 (st.names.length : Int)) rfl (fun a W h => ?_) (fun W _ => rfl)
          have e0 : a.eval (.tmp 43) = _ := h.dep 17 43 (by simp) rfl (of_decide_eq_true rfl)
          revert e0; generalize a.eval = ρ; intro e0
          simp [go_sem, e0]
        · refine stepN_val (v := .bool l12) rfl (fun a W h => ?_) (fun W _ => rfl)
          have e0 : a.eval (.tmp 44) = _ := h.dep 18 44 (by simp) rfl (of_decide_eq_true rfl)
          have e1 : a.eval (.const (.int .i64 12)) = .int .i64 12 := rfl
          revert e0 e1; generalize a.eval = ρ; intro e0 e1
          simp [execOp, go_sem, e0, e1, hl12]
        · refine stepN_call rfl (fun a W h => ⟨49, #[.bool l12, .int .i64 4], ?_, HC49b.out W h.1⟩)
          have e0 : a.eval (.tmp 45) = _ := h.dep 19 45 (by simp) rfl (of_decide_eq_true rfl)
          have e1 : a.eval (.const (.int .i64 4)) = .int .i64 4 := rfl
          have hf : a.eval (.func 49) = .func (.func 49) #[] #[] := rfl
          revert e0 e1 hf; generalize a.eval = ρ; intro e0 e1 hf
          simp [execOp, go_sem, e0, e1, hf]
        · refine stepN_any rfl (fun a W h => ?_)
          have e0 : a.eval (.tmp 38) = _ := h.dep 12 38 (by simp) rfl (of_decide_eq_true rfl)
          have e1 : a.eval (.tmp 46) = _ := h.dep 20 46 (by simp) rfl (of_decide_eq_true rfl)
          refine ⟨.slice (some ⟨W.heap.size, 0, none⟩) 2 2, W.alloc (.cells #[.int .i64 x5, .int .i64 x4] 27), ?_, (Kept.refl _ _).alloc _, W.heap.size, rfl, ?_, ?_⟩
          · revert e0 e1; generalize a.eval = ρ; intro e0 e1
            simp [execOp, go_sem, e0, e1]
          · rw [World.cell?_alloc_at (hn := rfl)]; rfl
          · rw [World.cell?_alloc_at (hn := rfl)]; rfl
        · refine stepN_call rfl (fun a W h => ?_)
          obtain ⟨g, e0, c0, c1⟩ := h.dep 21 47 (by simp) rfl (of_decide_eq_true rfl)
          refine ⟨48, #[.slice (some ⟨g, 0, none⟩) 2 2], ?_, (or48 W g x5 x4 c0 c1).mono (fun e W' h => ⟨.int .i64 xo, by rw [h.1, hxo], by rw [h.2]; exact Kept.refl _ _, rfl⟩)⟩
          have hf : a.eval (.func 48) = .func (.func 48) #[] #[] := rfl
          revert e0 hf; generalize a.eval = ρ; intro e0 hf
          simp [execOp, go_sem, e0, hf]
        · refine stepN_val (v := .int .i64 xo) rfl (fun a W h => ?_) (fun W _ => rfl)
          have e0 : a.eval (.tmp 48) = _ := h.dep 22 48 (by simp) rfl (of_decide_eq_true rfl)
          revert e0; generalize a.eval = ρ; intro e0
          simp [go_sem, e0]
        · intro f W hkW hR
          have e23 : f 23 = .int .i64 xo := hR 23 (by decide)
          simp only [puts, Act.put, List.setIfInBounds_toArray, List.set_cons_succ, List.set_cons_zero]
          rw [e23]
          go_wp2_with fail
          go_meet
          case rel => exact ⟨by rw [HXO.out], hkW⟩
      | false =>
        obtain ⟨x5, hx5⟩ : ∃ x5 : Int, (if !dn then 5 else 0) = x5 := ⟨_, rfl⟩
        obtain ⟨xo, hxo⟩ : ∃ xo : Int, (if x5 ≠ 0 then x5 else x4) = xo := ⟨_, rfl⟩
        have HC50 : Hid (∀ W, Kept (fun _ => False) w3 W → Calls Tryz.prog 50 #[.slice na st.names.length nc, .string nm] W fun e W' => ∃ v, e = .returned v ∧ Kept (fun _ => False) W W' ∧ v = .bool false) := fun W hk => (contains50 W w3.heap.size _ st.names nm (HN3.out.kept hk (Nat.le_refl _))).mono (fun e W' h => ⟨_, h.1, by rw [h.2]; exact Kept.refl _ _, by rw [hc]⟩)
        have HC49a : Hid (∀ W, Kept (fun _ => False) w3 W → Calls Tryz.prog 49 #[.bool (!dn), .int .i64 5] W fun e W' => ∃ v, e = .returned v ∧ Kept (fun _ => False) W W' ∧ v = .int .i64 x5) := fun W hk => (refusal49 W (!dn) 5).mono (fun e W' h => ⟨_, h.1, by rw [h.2]; exact Kept.refl _ _, by rw [hx5]⟩)
        have HXO : Hid (lineE st.names ws = xo) := by rw [Hid, HE.out, hc, ← hxo, ← hx5]; rfl
        clear HE
        refine wp_region_N [26, 27, 28, 29, 30, 31, 32, 33, 34, 35, 36, 37, 38, 39, 40, 41, 42, 43, 44, 45, 46, 47, 48, 10] (fun i v W => match i with
            | 0 => v = .pointer (some ⟨M, 0, none⟩)
            | 1 => v = .pointer (some ⟨M, 0, none⟩)
            | 2 => v = .pointer (some ⟨M, 0, none⟩)
            | 3 => v = .pointer (some ⟨M, 0, none⟩)
            | 4 => v = .slice na st.names.length nc
            | 5 => v = .string nm
            | 6 => v = .bool false
            | 7 => v = .bool false
            | 8 => v = .slice (some ⟨wb, wo + 3, none⟩) (ws.length - 3) (wcp - 3)
            | 9 => v = .bool dn
            | 10 => v = .bool (!dn)
            | 11 => v = .bool (!dn)
            | 12 => v = .int .i64 x5
            | 13 => v = .pointer (some ⟨M, 0, none⟩)
            | 14 => v = .pointer (some ⟨M, 0, none⟩)
            | 15 => v = .pointer (some ⟨M, 0, none⟩)
            | 16 => v = .pointer (some ⟨M, 0, none⟩)
            | 17 => v = .slice na st.names.length nc
            | 18 => v = .int .i64 (st.names.length : Int)
            | 19 => v = .bool l12
            | 20 => v = .int .i64 x4
            | 21 => ∃ g, v = .slice (some ⟨g, 0, none⟩) 2 2 ∧ W.cell? ⟨g, 0, none⟩ = some (.int .i64 x5) ∧ W.cell? ⟨g, 1, none⟩ = some (.int .i64 x4)
            | 22 => v = .int .i64 xo
            | 23 => v = .int .i64 xo
            | _ => True) rfl (by kernel_rfl) (by decide) (by kernel_rfl) ?_ ⟨?_, ?_, ?_, ?_, ?_, ?_, ?_, ?_, ?_, ?_, ?_, ?_, ?_, ?_, ?_, ?_, ?_, ?_, ?_, ?_, ?_, ?_, ?_, ?_, trivial⟩ ?_
        · intro i v W W' hk h
          match i with
          | 0 => exact h
          | 1 => exact h
          | 2 => exact h
          | 3 => exact h
          | 4 => exact h
          | 5 => exact h
          | 6 => exact h
          | 7 => exact h
          | 8 => exact h
          | 9 => exact h
          | 10 => exact h
          | 11 => exact h
          | 12 => exact h
          | 13 => exact h
          | 14 => exact h
          | 15 => exact h
          | 16 => exact h
          | 17 => exact h
          | 18 => exact h
          | 19 => exact h
          | 20 => exact h
          | 21 =>
            obtain ⟨g, e, h1, h2⟩ := h
            exact ⟨g, e, (hk.cell (lt_of_cell h1) (fun f => f)).trans h1, (hk.cell (lt_of_cell h2) (fun f => f)).trans h2⟩
          | 22 => exact h
          | 23 => exact h
          | n + 24 => trivial
        · refine stepN_val (v := .pointer (some ⟨M, 0, none⟩)) rfl (fun a W h => ?_) (fun W _ => rfl)
          have e0 : a.eval (.tmp 0) = _ := h.old 0 (by decide)
          revert e0; generalize a.eval = ρ; intro e0
          simp [execOp, go_sem, e0]
        · refine stepN_val (v := .pointer (some ⟨M, 0, none⟩)) rfl (fun a W h => ?_) (fun W _ => rfl)
          have e0 : a.eval (.tmp 26) = _ := h.dep 0 26 (by simp) rfl (of_decide_eq_true rfl)
          revert e0; generalize a.eval = ρ; intro e0
          simp [execOp, go_sem, e0]
        · refine stepN_val (v := .pointer (some ⟨M, 0, none⟩)) rfl (fun a W h => ?_) (fun W _ => rfl)
          have e0 : a.eval (.tmp 27) = _ := h.dep 1 27 (by simp) rfl (of_decide_eq_true rfl)
          revert e0; generalize a.eval = ρ; intro e0
          simp [execOp, go_sem, e0]
        · refine stepN_val (v := .pointer (some ⟨M, 0, none⟩)) rfl (fun a W h => ?_) (fun W _ => rfl)
          have e0 : a.eval (.tmp 28) = _ := h.dep 2 28 (by simp) rfl (of_decide_eq_true rfl)
          revert e0; generalize a.eval = ρ; intro e0
          simp [execOp, go_sem, e0]
        · refine stepN_val (v := .slice na st.names.length nc) rfl (fun a W h => ?_) (fun W _ => rfl)
          have e0 : a.eval (.tmp 29) = _ := h.dep 3 29 (by simp) rfl (of_decide_eq_true rfl)
          have c0 := HC0.out W h.1
          revert e0; generalize a.eval = ρ; intro e0
          simp [execOp, go_sem, e0, c0]
        · refine stepN_val (v := .string nm) rfl (fun a W h => ?_) (fun W _ => rfl)
          have e0 : a.eval (.tmp 8) = _ := h.old 8 (by decide)
          revert e0; generalize a.eval = ρ; intro e0
          simp [execOp, go_sem, e0]
        · refine stepN_call rfl (fun a W h => ⟨50, #[.slice na st.names.length nc, .string nm], ?_, HC50.out W h.1⟩)
          have e0 : a.eval (.tmp 30) = _ := h.dep 4 30 (by simp) rfl (of_decide_eq_true rfl)
          have e1 : a.eval (.tmp 31) = _ := h.dep 5 31 (by simp) rfl (of_decide_eq_true rfl)
          have hf : a.eval (.func 50) = .func (.func 50) #[] #[] := rfl
          revert e0 e1 hf; generalize a.eval = ρ; intro e0 e1 hf
          simp [execOp, go_sem, e0, e1, hf]
        · refine stepN_val (v := .bool false) rfl (fun a W h => ?_) (fun W _ => rfl)
          have e0 : a.eval (.tmp 32) = _ := h.dep 6 32 (by simp) rfl (of_decide_eq_true rfl)
          revert e0; generalize a.eval = ρ; intro e0
          simp [execOp, go_sem, e0]
        · refine stepN_yes (j := 7) (d := 33) (b := false) rfl (by simp) rfl (of_decide_eq_true rfl) (fun _ _ h => h) ?_
          refine stepN_val (v := .slice (some ⟨wb, wo + 3, none⟩) (ws.length - 3) (wcp - 3)) rfl (fun a W h => ?_) (fun W _ => rfl)
          have e0 : a.eval (.tmp 9) = _ := h.old 9 (by decide)
          revert e0; generalize a.eval = ρ; intro e0
          simp [execOp, go_sem, e0]
        · refine stepN_yes (j := 7) (d := 33) (b := false) rfl (by simp) rfl (of_decide_eq_true rfl) (fun _ _ h => h) ?_
          refine stepN_call rfl (fun a W h => ⟨51, #[.slice (some ⟨wb, wo + 3, none⟩) (ws.length - 3) (wcp - 3)], ?_, HC51.out W h.1⟩)
          have e0 : a.eval (.tmp 34) = _ := h.dep 8 34 (by simp) rfl (of_decide_eq_true rfl)
          have hf : a.eval (.func 51) = .func (.func 51) #[] #[] := rfl
          revert e0 hf; generalize a.eval = ρ; intro e0 hf
          simp [execOp, go_sem, e0, hf]
        · refine stepN_yes (j := 7) (d := 33) (b := false) rfl (by simp) rfl (of_decide_eq_true rfl) (fun _ _ h => h) ?_
          refine stepN_val (v := .bool (!dn)) rfl (fun a W h => ?_) (fun W _ => rfl)
          have e0 : a.eval (.tmp 35) = _ := h.dep 9 35 (by simp) rfl (of_decide_eq_true rfl)
          revert e0; generalize a.eval = ρ; intro e0
          simp [execOp, go_sem, e0]
        · refine stepN_val (v := .bool (!dn)) rfl (fun a W h => ?_) (fun W _ => rfl)
          have e0 : a.eval (.tmp 33) = _ := h.dep 7 33 (by simp) rfl (of_decide_eq_true rfl)
          have e1 : a.eval (.tmp 36) = _ := h.dep 10 36 (by simp) rfl (of_decide_eq_true rfl)
          revert e0 e1; generalize a.eval = ρ; intro e0 e1
          simp [execOp, go_sem, e0, e1]
        · refine stepN_call rfl (fun a W h => ⟨49, #[.bool (!dn), .int .i64 5], ?_, HC49a.out W h.1⟩)
          have e0 : a.eval (.tmp 37) = _ := h.dep 11 37 (by simp) rfl (of_decide_eq_true rfl)
          have e1 : a.eval (.const (.int .i64 5)) = .int .i64 5 := rfl
          have hf : a.eval (.func 49) = .func (.func 49) #[] #[] := rfl
          revert e0 e1 hf; generalize a.eval = ρ; intro e0 e1 hf
          simp [execOp, go_sem, e0, e1, hf]
        · refine stepN_val (v := .pointer (some ⟨M, 0, none⟩)) rfl (fun a W h => ?_) (fun W _ => rfl)
          have e0 : a.eval (.tmp 0) = _ := h.old 0 (by decide)
          revert e0; generalize a.eval = ρ; intro e0
          simp [execOp, go_sem, e0]
        · refine stepN_val (v := .pointer (some ⟨M, 0, none⟩)) rfl (fun a W h => ?_) (fun W _ => rfl)
          have e0 : a.eval (.tmp 39) = _ := h.dep 13 39 (by simp) rfl (of_decide_eq_true rfl)
          revert e0; generalize a.eval = ρ; intro e0
          simp [execOp, go_sem, e0]
        · refine stepN_val (v := .pointer (some ⟨M, 0, none⟩)) rfl (fun a W h => ?_) (fun W _ => rfl)
          have e0 : a.eval (.tmp 40) = _ := h.dep 14 40 (by simp) rfl (of_decide_eq_true rfl)
          revert e0; generalize a.eval = ρ; intro e0
          simp [execOp, go_sem, e0]
        · refine stepN_val (v := .pointer (some ⟨M, 0, none⟩)) rfl (fun a W h => ?_) (fun W _ => rfl)
          have e0 : a.eval (.tmp 41) = _ := h.dep 15 41 (by simp) rfl (of_decide_eq_true rfl)
          revert e0; generalize a.eval = ρ; intro e0
          simp [execOp, go_sem, e0]
        · refine stepN_val (v := .slice na st.names.length nc) rfl (fun a W h => ?_) (fun W _ => rfl)
          have e0 : a.eval (.tmp 42) = _ := h.dep 16 42 (by simp) rfl (of_decide_eq_true rfl)
          have c0 := HC0.out W h.1
          revert e0; generalize a.eval = ρ; intro e0
          simp [execOp, go_sem, e0, c0]
        · refine stepN_val (v := .int .i64 (st.names.length : Int)) rfl (fun a W h => ?_) (fun W _ => rfl)
          have e0 : a.eval (.tmp 43) = _ := h.dep 17 43 (by simp) rfl (of_decide_eq_true rfl)
          revert e0; generalize a.eval = ρ; intro e0
          simp [go_sem, e0]
        · refine stepN_val (v := .bool l12) rfl (fun a W h => ?_) (fun W _ => rfl)
          have e0 : a.eval (.tmp 44) = _ := h.dep 18 44 (by simp) rfl (of_decide_eq_true rfl)
          have e1 : a.eval (.const (.int .i64 12)) = .int .i64 12 := rfl
          revert e0 e1; generalize a.eval = ρ; intro e0 e1
          simp [execOp, go_sem, e0, e1, hl12]
        · refine stepN_call rfl (fun a W h => ⟨49, #[.bool l12, .int .i64 4], ?_, HC49b.out W h.1⟩)
          have e0 : a.eval (.tmp 45) = _ := h.dep 19 45 (by simp) rfl (of_decide_eq_true rfl)
          have e1 : a.eval (.const (.int .i64 4)) = .int .i64 4 := rfl
          have hf : a.eval (.func 49) = .func (.func 49) #[] #[] := rfl
          revert e0 e1 hf; generalize a.eval = ρ; intro e0 e1 hf
          simp [execOp, go_sem, e0, e1, hf]
        · refine stepN_any rfl (fun a W h => ?_)
          have e0 : a.eval (.tmp 38) = _ := h.dep 12 38 (by simp) rfl (of_decide_eq_true rfl)
          have e1 : a.eval (.tmp 46) = _ := h.dep 20 46 (by simp) rfl (of_decide_eq_true rfl)
          refine ⟨.slice (some ⟨W.heap.size, 0, none⟩) 2 2, W.alloc (.cells #[.int .i64 x5, .int .i64 x4] 27), ?_, (Kept.refl _ _).alloc _, W.heap.size, rfl, ?_, ?_⟩
          · revert e0 e1; generalize a.eval = ρ; intro e0 e1
            simp [execOp, go_sem, e0, e1]
          · rw [World.cell?_alloc_at (hn := rfl)]; rfl
          · rw [World.cell?_alloc_at (hn := rfl)]; rfl
        · refine stepN_call rfl (fun a W h => ?_)
          obtain ⟨g, e0, c0, c1⟩ := h.dep 21 47 (by simp) rfl (of_decide_eq_true rfl)
          refine ⟨48, #[.slice (some ⟨g, 0, none⟩) 2 2], ?_, (or48 W g x5 x4 c0 c1).mono (fun e W' h => ⟨.int .i64 xo, by rw [h.1, hxo], by rw [h.2]; exact Kept.refl _ _, rfl⟩)⟩
          have hf : a.eval (.func 48) = .func (.func 48) #[] #[] := rfl
          revert e0 hf; generalize a.eval = ρ; intro e0 hf
          simp [execOp, go_sem, e0, hf]
        · refine stepN_val (v := .int .i64 xo) rfl (fun a W h => ?_) (fun W _ => rfl)
          have e0 : a.eval (.tmp 48) = _ := h.dep 22 48 (by simp) rfl (of_decide_eq_true rfl)
          revert e0; generalize a.eval = ρ; intro e0
          simp [go_sem, e0]
        · intro f W hkW hR
          have e23 : f 23 = .int .i64 xo := hR 23 (by decide)
          simp only [puts, Act.put, List.setIfInBounds_toArray, List.set_cons_succ, List.set_cons_zero]
          rw [e23]
          go_wp2_with fail
          go_meet
          case rel => exact ⟨by rw [HXO.out], hkW⟩
    case rest =>
      obtain ⟨rfl, k4⟩ := hcut
      have HQ4 : Hid (RQ 56 CD w0 M (.slice na st.names.length nc) lv av bv st rs wc) := HQ3.out.new k4
      have HWL4 : Hid (LsS (SB (.slice na st.names.length nc) wc) wc (.slice (some ⟨wb, wo, none⟩) ws.length wcp) (ws.map Value.string)) := rowNew k4 HWL3.out
      have HG4 : Hid (LsS (SB (.slice na st.names.length nc) wc) wc gv gs) := rowNew k4 HG3.out
      have HWV4 : Hid (StrsV wc.heap.size wc (.slice (some ⟨wb, wo, none⟩) ws.length wcp) ws) := LsV.new HWV3.out k4
      clear HC0 HC51 HC49b HE HN3 HBH
      by_cases hl0 : lineE st.names ws = 0
      rotate_left
      · have HL0 : Hid (lineE st.names ws ≠ 0) := hl0
        have hne : ((lineE st.names ws) == 0) = false := by simpa using hl0
        obtain ⟨ee, hee⟩ : ∃ ee, lineE st.names ws = ee := ⟨_, rfl⟩
        have HEE : Hid (lineE st.names ws = ee) := hee
        rw [hee] at hne
        rw [hee]
        clear hl0 hee
        go_wp2
        go_ret
        exact .inr (.inl ⟨HNE.out, HL0.out, by rw [HEE.out]; rfl, HQ4.out.kept⟩)
      have HL0 : Hid (lineE st.names ws = 0) := hl0
      rw [hl0]
      clear hl0
      obtain ⟨wb', wo', e', _, hc1⟩ := StrsV.cell HWV4.out (i := 1) (by omega)
      cases e'
      have hL1 : (1 : Int) < (ws.length : Int) := by omega
      obtain ⟨lt, hlt⟩ : ∃ lt, ws[1] = lt := ⟨_, rfl⟩
      rw [hlt] at hc1
      have hlsz : 0 < lt.size ∧ lt.size ≤ 1000 := by rw [← hlt]; exact HWS.out _ (List.getElem_mem (by omega))
      have hg1 : ws.getD 1 nil = lt := by rw [← hlt]; simp [List.getD, show 1 < ws.length by omega]
      have hsp : (setP lt).1 = lettersZ lt := by
        have h1 := setP_letters lt hlsz.1
        have h2 := HFO.out
        simp only [formB, Bool.and_eq_true, decide_eq_true_eq] at h2
        rw [hg1] at h2
        exact h1.2 (by rw [h1.1]; simpa using h2.2.2.1)
      obtain ⟨sb, hsb⟩ : ∃ sb, (setP lt).2 = sb := ⟨_, rfl⟩
      obtain ⟨lz, hlz⟩ : ∃ lz, lettersZ lt = lz := ⟨_, rfl⟩
      have HPU : Hid (st.push k ws = { st with names := st.names ++ [nm], letters := st.letters ++ [lz], at_ := st.at_ ++ [(k : Int) + 1], behind := st.behind ++ [ws.drop 3] }) := by
        rw [Hid, PSt.push, hg0, hg1, hlz]
      go_upto_region 11 with (go_at_call 52; refine (set52 wc lt (by omega)).mono ?_; rw [hsp, hsb, hlz]; rintro e w5 ⟨k5, rfl⟩)
      have HQ5 : Hid (RQ 56 CD w0 M (.slice na st.names.length nc) lv av bv st rs w5) := HQ4.out.new k5
      have HWL5 : Hid (LsS (SB (.slice na st.names.length nc) w5) w5 (.slice (some ⟨wb, wo, none⟩) ws.length wcp) (ws.map Value.string)) := rowNew k5 HWL4.out
      have HG5 : Hid (LsS (SB (.slice na st.names.length nc) w5) w5 gv gs) := rowNew k5 HG4.out
      have hns : nm.size ≤ 1000 := by rw [← hnm]; exact (HWS.out _ (List.getElem_mem (by omega))).2
      clear hc1 k4 k5 hsp hsb hlz hg1 hg0
      have c0 : w5.cell? ⟨M, 0, none⟩ = some (.slice na st.names.length nc) := blk_cell HQ5.out.blk 0
      have fz0 := blk_frozen HQ5.out.blk 0
      obtain ⟨i0, hi, hz0, hz1, hz2⟩ := info_parts info9
      have hz5 := HQ5.out.kept.size
      go_cut [11] (fun v11 wd => v11 = .int .i64 lz ∧ ∃ nv', RQ 56 CD w0 M nv' lv av bv { st with names := st.names ++ [nm] } rs wd ∧ LsS (SB nv' wd) wd (.slice (some ⟨wb, wo, none⟩) ws.length wcp) (ws.map Value.string) ∧ LsS (SB nv' wd) wd gv gs)
      case first =>
        go_region_law (first
          | (refine step_call53 rfl (.tmp 65) #[9] rfl (.string nm) (by simp [Act.eval, Act.put]) (clone53 _ nm hns) ?_
             rintro e w6 ⟨rfl, k6⟩
             refine ⟨_, rfl, ?_⟩
             have K6 : Kept (fun _ => False) w5 w6 := Kept.trans (Kept.refl _ _).drew k6 (fun _ _ f => f)
             have HQ6 : Hid (RQ 56 CD w0 M (.slice na st.names.length nc) lv av bv st rs w6) := HQ5.out.new K6
             have HWL6 : Hid (LsS (SB (.slice na st.names.length nc) w6) w6 (.slice (some ⟨wb, wo, none⟩) ws.length wcp) (ws.map Value.string)) := rowNew K6 HWL5.out
             have g0 : w6.cell? ⟨M, 0, none⟩ = some (.slice na st.names.length nc) := blk_cell HQ6.out.blk 0
             have g0a : ∀ o, (w6.alloc o).cell? ⟨M, 0, none⟩ = some (.slice na st.names.length nc) := fun o => (((Kept.refl (fun _ => False) _).alloc o).cell (p := ⟨M, 0, none⟩) (lt_of_cell g0) (fun f => f)).trans g0
             have hz6 := HQ6.out.kept.size)
          | (refine step_append_own rfl (.tmp 64) (.tmp 67) 22 rfl w0.heap.size 9 i0 _ 1 16 Tryz.underlying22 hi hz0 hz1 hz2 rfl (by decide) (.slice na st.names.length nc) st.names.length _ (by simp [Act.eval]) (World.ownsRow.alloc HQ6.out.n _) ⟨w6.heap.size, 0, none⟩ 1 1 [.string nm] (by simp [Act.eval]) rfl (cell_one_new _ _ _) (by intro u hu; simp at hu; rcases hu with rfl; rfl) (by unfold maxLen; omega) (by omega) (by simp; omega) ?_
             intro nv' w7 hown7 hgrow7 hloc7
             obtain ⟨g7, cap7, rfl⟩ := ownsRow_form hown7
             have hg7 : Kept (fun b => inRow (.slice na st.names.length nc) b) w6 w7 := ((Kept.refl _ _).alloc _).grown hgrow7 (fun k _ e => e)
             have hM7 := HQ6.out.notM6 (row_blk HQ6.out.n HQ6.out.blk (by decide)) hg7
             have d0 : w7.cell? ⟨M, 0, none⟩ = some (.slice na st.names.length nc) := blk_cell hM7 0
             have d1 := blk_frozen hM7 0))
        all_goals
          go_wp2_with fail
          go_meet
          case rel =>
            have hs8 : Kept (fun k => k = M) w7 (w7.setCell ⟨M, 0, none⟩ (.slice (some ⟨g7, 0, none⟩) (st.names.length + 1) cap7)) := Kept.setCell (S := fun k => k = M) (Kept.refl _ _) (fun _ => rfl) _
            exact ⟨rfl, _, HQ6.out.name (N := w6.heap.size + 1) hg7 (by omega) hown7 (by simpa using hloc7) hs8 (heap_setCell_same _ _ _ _ _ _ hM7), HQ6.out.rowsM (N := w6.heap.size + 1) (fun k e => e.2.1) hg7 hs8 (by omega) (by simpa using hloc7) HWL6.out, HQ6.out.rowsM (N := w6.heap.size + 1) (fun k e => e.2.1) hg7 hs8 (by omega) (by simpa using hloc7) (rowNew K6 HG5.out)⟩
      case rest =>
        obtain ⟨rfl, nv', hq7, hwl7, hgl7⟩ := hcut
        have HQ7 : Hid (RQ 56 CD w0 M nv' lv av bv { st with names := st.names ++ [nm] } rs wc) := hq7
        have HW7 : Hid (LsS (SB nv' wc) wc (.slice (some ⟨wb, wo, none⟩) ws.length wcp) (ws.map Value.string)) := hwl7
        have HG7 : Hid (LsS (SB nv' wc) wc gv gs) := hgl7
        clear hq7 hwl7 hgl7 c0 fz0
        obtain ⟨i3, hi3, hy0, hy1, hy2⟩ := info_parts info3
        obtain ⟨i22, hi22, hx0, hx1, hx2⟩ := info_parts info22
        have hll : st.letters.length ≤ k := by rw [HOK.out.l]; omega
        have hal : st.at_.length ≤ k := by rw [HOK.out.a]; omega
        have hbl : st.behind.length ≤ k := by rw [HOK.out.b]; omega
        have hz7 := HQ7.out.kept.size
        have e1 : wc.cell? ⟨M, 1, none⟩ = some lv := blk_cell HQ7.out.blk 1
        clear HG0 HG1 HG2 HG3 HG4 HG5 HQ HQ1 HQ2 HQ3 HQ4 HQ5 HWL1 HWL2 HWL3 HWL4 HWL5 HWV HWV2 HWV3 HWV4
        go_upto_region 13 with (at_builtin; go_must (refine wpList_append_own_at _ rfl _ _ 23 rfl w0.heap.size 3 i3 _ 1 8 Tryz.underlying23 hi3 hy0 hy1 hy2 rfl (by decide) lv st.letters.length _ rfl (World.ownsRow.alloc HQ7.out.l _) ⟨wc.heap.size, 0, none⟩ 1 1 [.int .i64 lz] rfl rfl (cell_one_new _ _ _) (by intro y hy; simp at hy; rcases hy with rfl; rfl) (by unfold maxLen; omega) (by omega) (by simp; omega) ?_); intro lv' w8 hown8 hgrow8 hnil8 hloc8; obtain ⟨g8, cap8, rfl⟩ := ownsRow_form hown8; have hg8 : Kept (fun b => inRow lv b) wc w8 := ((Kept.refl _ _).alloc _).grown hgrow8 (fun k _ e => e); have hM8 := HQ7.out.notM6 (row_blk HQ7.out.l HQ7.out.blk (by decide)) hg8; have d0 : w8.cell? ⟨M, 1, none⟩ = some lv := blk_cell hM8 1; have d1 := blk_frozen hM8 1)
        obtain ⟨w9, hw9⟩ : ∃ w9, w9 = w8.setCell ⟨M, 1, none⟩ (.slice (some ⟨g8, 0, none⟩) (st.letters.length + 1) cap8) := ⟨_, rfl⟩
        have hs9 : Kept (fun k => k = M) w8 w9 := by rw [hw9]; exact Kept.setCell (S := fun k => k = M) (Kept.refl _ _) (fun _ => rfl) _
        have hM9 : w9.heap[M]? = some (.cells (CD nv' (.slice (some ⟨g8, 0, none⟩) (st.letters.length + 1) cap8) av bv) 56 (0, 0)) := by rw [hw9]; exact heap_setCell_same _ _ _ _ _ _ hM8
        have HQ9 : Hid (RQ 56 CD w0 M nv' (.slice (some ⟨g8, 0, none⟩) (st.letters.length + 1) cap8) av bv { st with names := st.names ++ [nm], letters := st.letters ++ [lz] } rs w9) := HQ7.out.letter (N := wc.heap.size + 1) hg8 (by omega) hown8 (by simpa using hloc8) hs9 hM9
        have HW9 : Hid (LsS (SB nv' w9) w9 (.slice (some ⟨wb, wo, none⟩) ws.length wcp) (ws.map Value.string)) := HQ7.out.rowsM (N := wc.heap.size + 1) (fun k e e' => by obtain ⟨c, hc⟩ := row_ty HQ7.out.l e'; obtain ⟨c', hc'⟩ := e.2.2; rw [hc] at hc'; injection hc' with hc'; injection hc' with _ hc'; exact absurd hc' (by decide)) hg8 hs9 (by omega) (.inl rfl) HW7.out
        have HG9 : Hid (LsS (SB nv' w9) w9 gv gs) := HQ7.out.rowsM (N := wc.heap.size + 1) (fun k e e' => by obtain ⟨c, hc⟩ := row_ty HQ7.out.l e'; obtain ⟨c', hc'⟩ := e.2.2; rw [hc] at hc'; injection hc' with hc'; injection hc' with _ hc'; exact absurd hc' (by decide)) hg8 hs9 (by omega) (.inl rfl) HG7.out
        rw [← hw9]
        generalize hlv9 : Value.slice (some ⟨g8, 0, none⟩) (st.letters.length + 1) cap8 = lv9 at *
        have hz9 := HQ9.out.kept.size
        clear hw9 hlv9 hs9 hM9 hM8 d0 d1 hown8 hgrow8 hloc8 hnil8 hg8 e1
        have e3 : w9.cell? ⟨M, 3, none⟩ = some av := blk_cell HQ9.out.blk 3
        go_upto_region 14 with (at_builtin; go_must (refine wpList_append_own_at _ rfl _ _ 23 rfl w0.heap.size 3 i3 _ 1 8 Tryz.underlying23 hi3 hy0 hy1 hy2 rfl (by decide) av st.at_.length _ rfl (World.ownsRow.alloc HQ9.out.a _) ⟨w9.heap.size, 0, none⟩ 1 1 [.int .i64 ((k : Int) + 1)] rfl rfl (cell_one_new _ _ _) (by intro y hy; simp at hy; rcases hy with rfl; rfl) (by unfold maxLen; omega) (by omega) (by simp; omega) ?_); intro av' w10 hown10 hgrow10 hnil10 hloc10; obtain ⟨g10, cap10, rfl⟩ := ownsRow_form hown10; have hg10 : Kept (fun b => inRow av b) w9 w10 := ((Kept.refl _ _).alloc _).grown hgrow10 (fun k _ e => e); have hM10 := HQ9.out.notM6 (row_blk HQ9.out.a HQ9.out.blk (by decide)) hg10; have d0 : w10.cell? ⟨M, 3, none⟩ = some av := blk_cell hM10 3; have d1 := blk_frozen hM10 3)
        obtain ⟨w11, hw11⟩ : ∃ w11, w11 = w10.setCell ⟨M, 3, none⟩ (.slice (some ⟨g10, 0, none⟩) (st.at_.length + 1) cap10) := ⟨_, rfl⟩
        have hs11 : Kept (fun k => k = M) w10 w11 := by rw [hw11]; exact Kept.setCell (S := fun k => k = M) (Kept.refl _ _) (fun _ => rfl) _
        have hM11 : w11.heap[M]? = some (.cells (CD nv' lv9 (.slice (some ⟨g10, 0, none⟩) (st.at_.length + 1) cap10) bv) 56 (0, 0)) := by rw [hw11]; exact heap_setCell_same _ _ _ _ _ _ hM10
        have HQ11 : Hid (RQ 56 CD w0 M nv' lv9 (.slice (some ⟨g10, 0, none⟩) (st.at_.length + 1) cap10) bv { st with names := st.names ++ [nm], letters := st.letters ++ [lz], at_ := st.at_ ++ [(k : Int) + 1] } rs w11) := HQ9.out.at_ (N := w9.heap.size + 1) hg10 (by omega) hown10 (by simpa using hloc10) hs11 hM11
        have HW11 : Hid (LsS (SB nv' w11) w11 (.slice (some ⟨wb, wo, none⟩) ws.length wcp) (ws.map Value.string)) := HQ9.out.rowsM (N := w9.heap.size + 1) (fun k e e' => by obtain ⟨c, hc⟩ := row_ty HQ9.out.a e'; obtain ⟨c', hc'⟩ := e.2.2; rw [hc] at hc'; injection hc' with hc'; injection hc' with _ hc'; exact absurd hc' (by decide)) hg10 hs11 (by omega) (.inl rfl) HW9.out
        have HG11 : Hid (LsS (SB nv' w11) w11 gv gs) := HQ9.out.rowsM (N := w9.heap.size + 1) (fun k e e' => by obtain ⟨c, hc⟩ := row_ty HQ9.out.a e'; obtain ⟨c', hc'⟩ := e.2.2; rw [hc] at hc'; injection hc' with hc'; injection hc' with _ hc'; exact absurd hc' (by decide)) hg10 hs11 (by omega) (.inl rfl) HG9.out
        have HSUB : Hid (LsS (SB nv' w11) w11 (.slice (some ⟨wb, wo + 3, none⟩) (ws.length - 3) (wcp - 3)) ((ws.drop 3).map Value.string)) := by
          have := HW11.out.sub (i := 3) (by simp; omega)
          rw [Hid, List.map_drop]
          simpa using this
        rw [← hw11]
        generalize hav11 : Value.slice (some ⟨g10, 0, none⟩) (st.at_.length + 1) cap10 = av11 at *
        have hz11 := HQ11.out.kept.size
        clear hw11 hav11 hs11 hM11 hM10 d0 d1 hown10 hgrow10 hloc10 hnil10 hg10 e3
        have e4 : w11.cell? ⟨M, 4, none⟩ = some bv := blk_cell HQ11.out.blk 4
        go_upto_region 15 with (at_builtin; go_must (refine wpList_append_own_at _ rfl _ _ 54 rfl w0.heap.size 22 i22 _ 1 24 Tryz.underlying54 hi22 hx0 hx1 hx2 rfl (by decide) bv st.behind.length _ rfl (World.ownsRow.alloc HQ11.out.b _) ⟨w11.heap.size, 0, none⟩ 1 1 [.slice (some ⟨wb, wo + 3, none⟩) (ws.length - 3) (wcp - 3)] rfl rfl (cell_one_new _ _ _) (by intro y hy; simp at hy; rcases hy with rfl; rfl) (by unfold maxLen; omega) (by omega) (by simp; omega) ?_); intro bv' w12 hown12 hgrow12 hnil12 hloc12; obtain ⟨g12, cap12, rfl⟩ := ownsRow_form hown12; have hg12 : Kept (fun b => inRow bv b) w11 w12 := ((Kept.refl _ _).alloc _).grown hgrow12 (fun k _ e => e); have hM12 := HQ11.out.notM6 (row_blk HQ11.out.b HQ11.out.blk (by decide)) hg12; have d0 : w12.cell? ⟨M, 4, none⟩ = some bv := blk_cell hM12 4; have d1 := blk_frozen hM12 4)
        go_wp2
        go_ret
        have hs13 : Kept (fun k => k = M) w12 (w12.setCell ⟨M, 4, none⟩ (.slice (some ⟨g12, 0, none⟩) (st.behind.length + 1) cap12)) := Kept.setCell (S := fun k => k = M) (Kept.refl _ _) (fun _ => rfl) _
        refine .inr (.inr ⟨HNE.out, HL0.out, rfl, nv', lv9, av11, .slice (some ⟨g12, 0, none⟩) (st.behind.length + 1) cap12, rs ++ [.slice (some ⟨wb, wo + 3, none⟩) (ws.length - 3) (wcp - 3)], ?_, ?_⟩)
        · rw [HPU.out]
          exact HQ11.out.behind (N := w11.heap.size + 1) (bs := ws.drop 3) hg12 (by omega) hown12 hs13 (heap_setCell_same _ _ _ _ _ _ hM12) HSUB.out
        · exact HQ11.out.rowsM (N := w11.heap.size + 1) (fun k e e' => by obtain ⟨c, hc⟩ := row_ty HQ11.out.b e'; obtain ⟨c', hc'⟩ := e.2.2; rw [hc] at hc'; injection hc' with hc'; injection hc' with _ hc'; exact absurd hc' (by decide)) hg12 hs13 (by omega) (.inl rfl) HG11.out
end Go.Proofs.YtdbpdanocpfboabGreatDoor
