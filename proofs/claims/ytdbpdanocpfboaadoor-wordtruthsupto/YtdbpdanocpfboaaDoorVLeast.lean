/- Walks of package word: Least. -/
import Derived.Test.YtdbpdanocpfboaaDoorVRef3
import Derived.Test.YtdbpdanocpfboaaDoorVGiven
namespace Go.Proofs.YtdbpdanocpfboaaDoor
open Go.RowKit Go.Shelf

set_option maxHeartbeats 1000000 in
theorem step_call70 {ops : Array Oper} {o : Oper} {a : Act} {w : World} {K : Act → World → Prop} {Q : Exit → Act → World → Prop} {E : Prop} {R : Ending → World → Prop}
    (hg : o.guard = none) (x : Operand) (t : Array TypeId) (hop : o.op = Op.call { callee := .value (.func 70), args := #[x], argTypes := t }) (v : Value) (hx : a.eval x = v)
    (hc : Calls Tryd.prog 70 #[v] w R) (hK : ∀ e w', R e w' → ∃ u, e = .returned u ∧ K (a.put o.dst u) w') : if Region.wanted o (yielded ops a.tmps) = true then Oper.wp Tryd.prog o a w K Q else E := by
  have hw : Region.wanted o (yielded ops a.tmps) = true := by simp [Region.wanted, hg]
  rw [if_pos hw]
  have he : (execOp a.eval o).run Tryd.prog w = .ok (.enter 70 #[v]) w := by
    have hx' : a.eval (.func 70) = .func (.func 70) #[] #[] := rfl
    have hn : ¬ Tryd.f70.name = "runtime.NumGoroutine" := by
      have : (Tryd.f70.name == "runtime.NumGoroutine") = false := by kernel_rfl
      simpa using this
    have hb : ¬ Tryd.f70.body = none := by
      have : Tryd.f70.body.isNone = false := by kernel_rfl
      intro h
      rw [h] at this
      simp at this
    simp [execOp, hop, resolve, invoke, hx, hx', Deferred.ofValue, callFunc, Tryd.func70, hn, hb]
  unfold Oper.wp
  rw [he]
  refine hc.mono fun e w' hR => ?_
  obtain ⟨u, rfl, hk⟩ := hK e w' hR
  exact hk

theorem step_append_nil {ops : Array Oper} {o : Oper} {a : Act} {w : World} {K : Act → World → Prop} {Q : Exit → Act → World → Prop} {E : Prop} {B : Nat} {ys : List Int} {v : Value} (n : Nat) (hn : ys.length = n)
    (hg : o.guard = none) (s x : Operand) (t tx : TypeId) (ht : Tryd.prog.underlying t = some (.slice 3)) (htx : Tryd.prog.underlying tx = some (.slice 3)) (hop : o.op = Op.call { callee := Callee.builtin Builtin.append, args := #[s, x], argTypes := #[t, tx] }) (hs : a.eval s = .slice none 0 0) (hx : a.eval x = v)
    (hv : IntsV B w v ys) (hK : ∀ ad c w', NewS w w' ad c ys → K (a.put o.dst (.slice ad n c)) w') : if Region.wanted o (yielded ops a.tmps) = true then Oper.wp Tryd.prog o a w K Q else E := by
  subst hn
  obtain ⟨ad, c, w', hr, hN⟩ := append_nil_ints (t := t) (tx := tx) htx ht hv
  exact step_append_run hg s x t tx hop _ _ hs hx hr (hK ad c w' hN)
theorem step_concat {ops : Array Oper} {o : Oper} {a : Act} {w : World} {K : Act → World → Prop} {Q : Exit → Act → World → Prop} {E : Prop} {B : Nat} {xs ys : List Int} {va vb : Value} (n ab : Nat) (hn : xs.length + ys.length = n)
    (hg : o.guard = none) (x : Operand) (t : Array TypeId) (hop : o.op = Op.call { callee := .value (.func 70), args := #[x], argTypes := t }) (hx : a.eval x = .slice (some ⟨ab, 0, none⟩) 2 2)
    (c0 : w.cell? ⟨ab, 0, none⟩ = some va) (c1 : w.cell? ⟨ab, 1, none⟩ = some vb) (hva : IntsV B w va xs) (hvb : IntsV B w vb ys) (hB : B ≤ w.heap.size) (h0 : 0 < n) (hn2 : n ≤ 20000)
    (hK : ∀ b cap w', NewS w w' (some ⟨b, 0, none⟩) cap (xs ++ ys) → K (a.put o.dst (.slice (some ⟨b, 0, none⟩) n cap)) w') : if Region.wanted o (yielded ops a.tmps) = true then Oper.wp Tryd.prog o a w K Q else E := by
  subst hn
  refine step_call70 hg x t hop _ hx (concat70 w B ab va vb xs ys hB c0 c1 hva hvb h0 hn2) ?_
  rintro e w' ⟨b, cap, rfl, hI⟩
  refine ⟨_, rfl, hK b cap w' ⟨hI.1, .inr ⟨b, rfl, ?_, hI⟩⟩⟩
  have hc : 0 < cap := by have := hI.2.2.1; rw [List.length_append] at this; omega
  obtain ⟨v, hv⟩ := Option.isSome_iff_exists.1 (hI.2.2.2.1 0 hc).1
  exact lt_of_cell hv
theorem IntsV.take {B : Nat} {w : World} {a : Option Addr} {n c : Nat} {xs : List Int} (h : IntsV B w (.slice a n c) xs) (m : Nat) (hm : m ≤ xs.length) : IntsV B w (.slice a m c) (xs.take m) := by
  obtain ⟨a', c', e, h1, h2, h3⟩ := h
  cases e
  have hl : (xs.take m).length = m := by rw [List.length_take]; omega
  refine ⟨a, c, by rw [hl], by omega, by omega, fun i x hx => h3 i x ?_⟩
  obtain ⟨hi, rfl⟩ := List.getElem?_eq_some_iff.1 hx
  rw [List.getElem_take]
  exact List.getElem?_eq_getElem _
theorem IntsV.dropI {B : Nat} {w : World} {b o n c : Nat} {xs : List Int} (h : IntsV B w (.slice (some ⟨b, o, none⟩) n c) xs) (t : Nat) (ht : t ≤ xs.length) : IntsV B w (.slice (if c = t then some ⟨b, o, none⟩ else some ⟨b, o + t, none⟩) (n - t) (c - t)) (xs.drop t) := by
  obtain ⟨a', c', e, h1, h2, h3⟩ := h
  cases e
  refine ⟨_, _, by rw [List.length_drop], by rw [List.length_drop]; omega, by rw [List.length_drop]; omega, fun i x hx => ?_⟩
  obtain ⟨hi, rfl⟩ := List.getElem?_eq_some_iff.1 hx
  rw [List.length_drop] at hi
  have hne : c ≠ t := by omega
  rw [if_neg hne]
  obtain ⟨b', o', e', hb, hc⟩ := h3 (t + i) xs[t + i] (List.getElem?_eq_getElem (by omega))
  cases e'
  refine ⟨b, o + t, rfl, hb, ?_⟩
  rw [List.getElem_drop, Nat.add_assoc]
  exact hc

theorem cutW_take (hd lp : List Int) (m : Nat) (hm : m ≤ hd.length) : cutW (wAt hd lp) 0 m = hd.take m := by
  apply List.ext_getElem?
  intro i
  by_cases hi : i < m
  · have h2 : i < hd.length := by omega
    rw [List.getElem?_take_of_lt hi]
    simp [cutW, hi, wAt, h2]
  · rw [List.getElem?_eq_none (by rw [cutW_length]; omega), List.getElem?_eq_none (by rw [List.length_take]; omega)]
theorem cutW_turn (hd lp : List Int) (m P t : Nat) (hP : 1 ≤ P) (hl : P ≤ lp.length) (ht : t ≤ P) (h : ∀ i, wAt hd lp (m + i) = lp.getD ((i + t) % P) 0) : cutW (wAt hd lp) m P = (lp.take P).drop t ++ (lp.take P).take t := by
  apply List.ext_getElem?
  intro i
  by_cases hi : i < P
  · have e1 : (cutW (wAt hd lp) m P)[i]? = some (wAt hd lp (m + i)) := by simp [cutW, hi]
    have hq := Nat.mod_lt (i + t) (show 0 < P by omega)
    have e2 : lp.getD ((i + t) % P) 0 = lp[(i + t) % P]'(by omega) := by rw [List.getD_eq_getElem?_getD, List.getElem?_eq_getElem (by omega)]; rfl
    rw [e1, h i, e2]
    by_cases h2 : i + t < P
    · rw [List.getElem?_append_left (by rw [List.length_drop, List.length_take]; omega), List.getElem?_drop, List.getElem?_take_of_lt (by omega), List.getElem?_eq_getElem (by omega)]
      congr 2
      rw [Nat.mod_eq_of_lt h2, Nat.add_comm]
    · rw [List.getElem?_append_right (by rw [List.length_drop, List.length_take]; omega), List.getElem?_take_of_lt (by rw [List.length_drop, List.length_take]; omega), List.getElem?_take_of_lt (by rw [List.length_drop, List.length_take]; omega), List.getElem?_eq_getElem (by rw [List.length_drop, List.length_take]; omega)]
      congr 2
      rw [List.length_drop, List.length_take, Nat.mod_eq_sub_mod (by omega), Nat.mod_eq_of_lt (by omega)]
      omega
  · rw [List.getElem?_eq_none (by rw [cutW_length]; omega), List.getElem?_eq_none (by rw [List.length_append, List.length_drop, List.length_take, List.length_take, List.length_take]; omega)]

theorem LPer.ex (l : List Int) : ∀ q, 1 ≤ q → q ∣ l.length → IsPer l q → ∃ P, LPer l P := by
  intro q
  induction q using Nat.strongRecOn with
  | _ q ih =>
    intro h1 h2 h3
    by_cases h : ∃ p, p < q ∧ 1 ≤ p ∧ p ∣ l.length ∧ IsPer l p
    · obtain ⟨p, hp, a1, a2, a3⟩ := h
      exact ih p hp a1 a2 a3
    · refine ⟨q, h1, h2, h3, fun p a1 a2 a3 => ?_⟩
      by_cases hp : q ≤ p
      · exact hp
      · exact absurd ⟨p, by omega, a1, a2, a3⟩ h
theorem period68' (w : World) (B : Nat) (v : Value) (l : List Int) (P : Nat) (hP : LPer l P) (h : IntsV B w v l) (hB : B ≤ w.heap.size) (hl : 0 < l.length) (hl2 : l.length ≤ 20000) :
    Calls Tryd.prog 68 #[v] w fun e w' => Kept (fun _ => False) w w' ∧ e = .returned (.int .i64 (P : Int)) :=
  (period68 w B v l h hB hl hl2).mono fun _ _ ⟨hk, Q, he, hQ⟩ => ⟨hk, by rw [he, hQ.inj hP]⟩

theorem fromEnd69' (w : World) (B : Nat) (v : Value) (l : List Int) (n P : Nat) (y : Int) (hP : l.length = P) (hy : l.getD (P - 1 - n % P) 0 = y) (h : IntsV B w v l) (hl : 0 < P) (hl2 : P ≤ 20000) (hn : n ≤ 20000) :
    Calls Tryd.prog 69 #[v, .int .i64 (n : Int)] w fun e w' => Kept (fun _ => False) w w' ∧ e = .returned (.int .i64 y) := by
  subst hP hy
  exact (fromEnd69 w B v l n h hl hl2 hn).mono fun _ _ ⟨h1, h2⟩ => ⟨by rw [h1]; exact Kept.refl _ _, h2⟩

set_option maxRecDepth 100000 in
set_option maxHeartbeats 1000000 in
theorem least37 (w : World) (B : Nat) (v : Value) (hd lp : List Int) (hW : WordV B w v hd lp) (hB : B ≤ w.heap.size) :
    Calls Tryd.prog 37 #[v] w fun e w' => Kept (fun _ => False) w w' ∧ ((goodW hd lp = false ∧ e = .returned (.agg #[.slice none 0 0, .slice none 0 0])) ∨ (goodW hd lp = true ∧ ∃ h P a c a' c', e = .returned (.agg #[.slice a h c, .slice a' P c']) ∧ Short hd lp h P ∧ NewS w w' a c (cutW (wAt hd lp) 0 h) ∧ NewS w w' a' c' (cutW (wAt hd lp) h P) ∧ Apart2 a a')) := by
  obtain ⟨hv1, lv1, rfl, h1, h2⟩ := id hW
  obtain ⟨ha, hc, rfl, hl1⟩ := h1.form
  obtain ⟨la, lc, rfl, hl2⟩ := h2.form
  obtain ⟨w1, hw1⟩ : ∃ w1, w1 = ((w.alloc (.cells #[.slice ha hd.length hc, .slice la lp.length lc] 49)).alloc (.cells #[.slice none 0 0, .slice none 0 0] 49)) := ⟨_, rfl⟩
  have hk0 : Kept (fun _ => False) w w1 := by rw [hw1]; exact ((Kept.refl _ _).alloc _).alloc _
  have hc0 : w1.cell? ⟨w.heap.size, 0, none⟩ = some (.slice ha hd.length hc) := by rw [hw1]; simp [go_sem]
  have hc1 : w1.cell? ⟨w.heap.size, 1, none⟩ = some (.slice la lp.length lc) := by rw [hw1]; simp [go_sem]
  have hbx : Box2 w1 (w.heap.size + 1) (.slice none 0 0) (.slice none 0 0) := by
    rw [hw1]
    exact ⟨by simp, by rw [World.cell?_alloc_at (hn := by simp)]; rfl, by rw [World.cell?_alloc_at (hn := by simp)]; rfl, by rw [World.frozen?_alloc_at (hn := by simp)], by rw [World.frozen?_alloc_at (hn := by simp)]⟩
  go_enter Tryd.func37, Tryd.ntmps37
  go_upto_region 1 with fail
  rw [← hw1]
  clear hw1
  have hB1 : B ≤ w1.heap.size := Nat.le_trans hB hk0.size
  have HW : Hid (WordV B w (.agg #[.slice ha hd.length hc, .slice la lp.length lc]) hd lp) := hW
  have HW1 : Hid (WordV B w1 (.agg #[.slice ha hd.length hc, .slice la lp.length lc]) hd lp) := hW.kept hk0 hB
  clear hW h1 h2
  have hlt0 := lt_of_cell hc0
  simp only at hlt0
  cases hg : goodW hd lp with
  | false =>
    have HG : Hid _ := hg
    clear hg
    go_upto_region 2 with (go_at_call 29; refine (good29 _ B _ hd lp HW1.out hB1).mono ?_; rintro e w2 ⟨rfl, hk1⟩; rw [HG.out])
    obtain ⟨_, r0, r1, f0, f1⟩ := hbx.kept hk1
    go_wp2
    refine bodyPost_ret (v := .agg #[.slice none 0 0, .slice none 0 0]) (by simp [results, Tryd.results37, go_sem, r0, r1]) rfl ⟨?_, .inl ⟨HG.out, rfl⟩⟩
    exact (((hk0.trans hk1 (fun _ _ f => f)).setCell (fun hh => absurd hh (by simp)) _).setCell (fun hh => absurd hh (by simp)) _)
  | true =>
    have HG : Hid _ := hg
    have hlen := goodW_len hg
    clear hg
    go_upto_region 3 with (go_at_call 29; refine (good29 _ B _ hd lp HW1.out hB1).mono ?_; rintro e w2 ⟨rfl, hk1⟩; rw [HG.out])
    have hk2 := hk0.trans hk1 (fun _ _ f => f)
    have e0 := (hk1.cell (p := ⟨w.heap.size, 0, none⟩) hlt0 (fun f => f)).trans hc0
    have e1 := (hk1.cell (p := ⟨w.heap.size, 1, none⟩) hlt0 (fun f => f)).trans hc1
    have hbx2 := hbx.kept hk1
    have hlt2 : w.heap.size < w2.heap.size := Nat.lt_of_lt_of_le hlt0 hk1.size
    have HW2 : Hid (WordV B w2 (.agg #[.slice ha hd.length hc, .slice la lp.length lc]) hd lp) := HW.out.kept hk2 hB
    have hB2 : B ≤ w2.heap.size := Nat.le_trans hB hk2.size
    clear hc0 hc1 hbx hk1 HW1 hB1 hlt0 hk0 HW
    obtain ⟨_, _, e0', g1, g2⟩ := HW2.out
    simp only [Value.agg.injEq, Array.mk.injEq, List.cons.injEq, and_true] at e0'
    obtain ⟨rfl, rfl⟩ := e0'
    rcases g2.cases with ⟨hnil, _⟩ | ⟨_, lb, lo, lcap, hle, hlcap, _, hlbB, hlcell⟩
    · rw [hnil] at hlen
      simp at hlen
    simp only [Value.slice.injEq, true_and] at hle
    obtain ⟨rfl, rfl⟩ := hle
    have HLC : Hid (∀ i (hi : i < lp.length), w2.cell? ⟨lb, lo + i, none⟩ = some (.int .i64 lp[i])) := hlcell
    clear hlcell
    have U0 : ∀ U : KW w2, U.1.cell? ⟨w.heap.size, 0, none⟩ = some (.slice ha hd.length hc) := fun U => U.cell e0
    have U1 : ∀ U : KW w2, U.1.cell? ⟨w.heap.size, 1, none⟩ = some (.slice (some ⟨lb, lo, none⟩) lp.length lc) := fun U => U.cell e1
    obtain ⟨P, hP⟩ := LPer.ex lp lp.length hlen.2 (Nat.dvd_refl _) (isPer_self lp)
    have hP1 : 1 ≤ P := hP.1
    have hP2 : P ≤ lp.length := Nat.le_of_dvd hlen.2 hP.2.1
    have HP : Hid (LPer lp P) := hP
    clear hP
    have hPc : P ≤ lc := by omega
    have hPci : (P : Int) ≤ (lc : Int) := by omega
    have G2 : Hid (IntsV B w2 (.slice (some ⟨lb, lo, none⟩) lp.length lc) lp) := g2
    clear g2
    refine wp_region_quiet_kept (by kernel_rfl) (by kernel_rfl) ?_
    repeat (refine wpQuiet_step (fun K hK => ?_); go_simp; first | (refine hK _ ?_; clear hK K) | (apply Exists.intro; refine ⟨fun U => ?_, hK _ ?_⟩; (go_at_call 68; refine Calls.quiet_kept (period68' _ B _ lp P HP.out (G2.out.kept U.2 hB2) (Nat.le_trans hB2 U.2.size) hlen.2 ?_); omega); clear hK K))
    refine wpQuiet_nil ?_
    intro w3 hw'
    have k3 : Kept (fun _ => False) w2 w3 := by
      obtain ⟨U, rfl⟩ := hw'
      exact U.2
    clear U0 U1 hw'
    have e0' := (k3.cell (p := ⟨w.heap.size, 0, none⟩) hlt2 (fun f => f)).trans e0
    have e1' := (k3.cell (p := ⟨w.heap.size, 1, none⟩) hlt2 (fun f => f)).trans e1
    have hbx3 := hbx2.kept k3
    have hk3 := hk2.trans k3 (fun _ _ f => f)
    have G1 : Hid (IntsV B w3 (.slice ha hd.length hc) hd) := g1.kept k3 hB2
    have hB3 := Nat.le_trans hB2 k3.size
    have GL : Hid (IntsV B w3 (.slice (some ⟨lb, lo, none⟩) P lc) (lp.take P)) := by
      have hl : (lp.take P).length = P := by rw [List.length_take]; omega
      refine ⟨_, lc, by rw [hl], by omega, by omega, fun i x hx => ⟨lb, lo, rfl, hlbB, ?_⟩⟩
      obtain ⟨hi, rfl⟩ := List.getElem?_eq_some_iff.1 hx
      rw [k3.cell (p := ⟨lb, lo + i, none⟩) (Nat.lt_of_lt_of_le hlbB hB2) (fun f => f), HLC.out i (by omega), List.getElem_take]
    clear e0 e1 hbx2 g1 HLC G2 HW2 k3 hk2 hB2 hlt2
    go_wp2
    have HTL : Hid ((lp.take P).length = P) := by rw [Hid, List.length_take]; omega
    have hk3 : Hid (Kept (fun _ => False) w w3) := hk3
    go_loopw [5] (fun v5 wr => ∃ k : Nat, k ≤ hd.length ∧ v5 = .int .i64 (k : Int) ∧ Kept (fun _ => False) w3 wr ∧ ∀ j, j < k → hd.getD (hd.length - 1 - j) 0 = lp.getD (P - 1 - j % P) 0) (fun v5 _ => hd.length - (intOf v5).toNat)
    case atStart => exact ⟨0, Nat.zero_le _, rfl, Kept.refl _ _, fun j h => absurd h (by omega)⟩
    case round =>
      obtain ⟨k, hk, rfl, hkr, hsame⟩ := hrel
      have HS : Hid (∀ j, j < k → hd.getD (hd.length - 1 - j) 0 = lp.getD (P - 1 - j % P) 0) := hsame
      clear hsame
      have GHr : Hid (IntsV B wr (.slice ha hd.length hc) hd) := G1.out.kept hkr hB3
      have GLr : Hid (IntsV B wr (.slice (some ⟨lb, lo, none⟩) P lc) (lp.take P)) := GL.out.kept hkr hB3
      have hBr := Nat.le_trans hB3 hkr.size
      go_upto_region 6 with fail
      go_cut [36] from 19 to 38 (fun v36 wc => Kept (fun _ => False) wr wc ∧ ((v36 = .bool true ∧ k < hd.length ∧ hd.getD (hd.length - 1 - k) 0 = lp.getD (P - 1 - k % P) 0) ∨ (v36 = .bool false ∧ (k = hd.length ∨ hd.getD (hd.length - 1 - k) 0 ≠ lp.getD (P - 1 - k % P) 0))))
      case first =>
        by_cases hlt : k < hd.length
        · have hlti : (k : Int) < (hd.length : Int) := by omega
          obtain ⟨i, hi⟩ : ∃ i, i = hd.length - 1 - k := ⟨_, rfl⟩
          have hil : i < hd.length := by omega
          obtain ⟨_, _, e1, _, _, q1⟩ := GHr.out
          obtain ⟨hb, ho, hab, hbB, hcell⟩ := q1 i hd[i] (List.getElem?_eq_getElem hil)
          cases e1
          subst hab
          clear q1
          have UX : ∀ U : KW wr, U.1.cell? ⟨hb, ho + i, none⟩ = some (.int .i64 hd[i]) := fun U => U.cell hcell
          have hE : ((hd.length : Int) - 1 - (k : Int)) = (i : Int) := by omega
          have hili : (i : Int) < (hd.length : Int) := by omega
          have hw1 : IntKind.i64.wrap ((hd.length : Int) - 1) = (hd.length : Int) - 1 := wrapI _ (by omega)
          have hw2 : IntKind.i64.wrap (i : Int) = (i : Int) := wrapI _ (by omega)
          obtain ⟨x, hx⟩ : ∃ x, hd[i] = x := ⟨_, rfl⟩
          rw [hx] at UX
          have HX : Hid (hd.getD (hd.length - 1 - k) 0 = x) := by rw [Hid, ← hi, ← hx]; simp [hil]
          obtain ⟨y, hy⟩ : ∃ y, lp.getD (P - 1 - k % P) 0 = y := ⟨_, rfl⟩
          have HY : Hid ((lp.take P).getD (P - 1 - k % P) 0 = y) := by
            have := Nat.mod_lt k (show 0 < P by omega)
            rw [Hid, ← hy, List.getD_eq_getElem?_getD, List.getElem?_take_of_lt (by omega), List.getD_eq_getElem?_getD]
          have HY2 : Hid (lp.getD (P - 1 - k % P) 0 = y) := hy
          clear hy hx hcell hi
          by_cases hxy : x = y
          · have hb : (x == y) = true := by simpa using hxy
            refine wp_region_quiet_kept (by kernel_rfl) (by kernel_rfl) ?_
            repeat (refine wpQuiet_step (fun K hK => ?_); go_simp; first | (refine hK _ ?_; clear hK K) | (apply Exists.intro; refine ⟨fun U => ?_, hK _ ?_⟩; (go_at_call 69; refine Calls.quiet_kept (fromEnd69' _ B _ (lp.take P) k P y HTL.out HY.out (GLr.out.kept U.2 hBr) ?_ ?_ ?_); omega; omega; omega); clear hK K))
            refine wpQuiet_nil ?_
            intro w4 hw'
            have k4 : Kept (fun _ => False) wr w4 := by
              obtain ⟨U, rfl⟩ := hw'
              exact U.2
            clear hw'
            go_wp2_with fail
            go_meet
            case rel => exact ⟨k4, .inl ⟨rfl, hlt, by rw [HX.out, HY2.out, hxy]⟩⟩
          · have hb : (x == y) = false := by simpa using hxy
            refine wp_region_quiet_kept (by kernel_rfl) (by kernel_rfl) ?_
            repeat (refine wpQuiet_step (fun K hK => ?_); go_simp; first | (refine hK _ ?_; clear hK K) | (apply Exists.intro; refine ⟨fun U => ?_, hK _ ?_⟩; (go_at_call 69; refine Calls.quiet_kept (fromEnd69' _ B _ (lp.take P) k P y HTL.out HY.out (GLr.out.kept U.2 hBr) ?_ ?_ ?_); omega; omega; omega); clear hK K))
            refine wpQuiet_nil ?_
            intro w4 hw'
            have k4 : Kept (fun _ => False) wr w4 := by
              obtain ⟨U, rfl⟩ := hw'
              exact U.2
            clear hw'
            go_wp2_with fail
            go_meet
            case rel => exact ⟨k4, .inr ⟨rfl, .inr (by rw [HX.out, HY2.out]; exact hxy)⟩⟩
        · have hlti : ¬ (k : Int) < (hd.length : Int) := by omega
          go_region
          go_wp2_with fail
          go_meet
          case rel => exact ⟨(Kept.refl _ _).drew, .inr ⟨rfl, .inl (by omega)⟩⟩
      case rest =>
        obtain ⟨hkc, hcut⟩ := hcut
        rcases hcut with ⟨rfl, hpos, heq⟩ | ⟨rfl, hend⟩
        · have HE : Hid (hd.getD (hd.length - 1 - k) 0 = lp.getD (P - 1 - k % P) 0) := heq
          clear heq
          go_wp2
          go_roundw
          case rel => exact ⟨k + 1, by omega, by go_num, hkr.trans hkc (fun _ _ f => f), fun j hj => by
            rcases Nat.lt_succ_iff_lt_or_eq.1 hj with h | rfl
            · exact HS.out j h
            · exact HE.out⟩
          case measure => simp [intOf]; omega
        · have HBS : Hid (Short hd lp (hd.length - k) P ∧ ∀ i, wAt hd lp (hd.length - k + i) = lp.getD ((i + (P - k % P)) % P) 0) := back_short HP.out hlen.2 hk HS.out hend
          have hkq := hkr.trans hkc (fun _ _ f => f)
          have hkw := hk3.out.trans hkq (fun _ _ f => f)
          have GHc : Hid (IntsV B wc (.slice ha hd.length hc) hd) := GHr.out.kept hkc hBr
          have GLc : Hid (IntsV B wc (.slice (some ⟨lb, lo, none⟩) P lc) (lp.take P)) := GLr.out.kept hkc hBr
          have hBc := Nat.le_trans hBr hkc.size
          have hbc := hbx3.kept hkq
          have hmodL := Nat.mod_lt k (show 0 < P by omega)
          have hmod : (k : Int).tmod (P : Int) = ((k % P : Nat) : Int) := by
            rw [Int.tmod_eq_emod_of_nonneg (by omega)]
            rfl
          clear hend HS hkr hkc hkq GHr GLr hBr GL G1 hB3 hbx3 e0' e1'
          have hPz : ¬ P = 0 := by omega
          obtain ⟨r, hr⟩ : ∃ r, r = k % P := ⟨_, rfl⟩
          have HR : Hid (r = k % P) := hr
          rw [← hr] at hmod hmodL
          clear hr
          go_upto_region 9 with fail
          obtain ⟨m, hm⟩ : ∃ m, m = hd.length - k := ⟨_, rfl⟩
          obtain ⟨t, ht⟩ : ∃ t, t = P - r := ⟨_, rfl⟩
          have hmi : ((hd.length : Int) - (k : Int)) = (m : Int) := by omega
          have hti : ((P : Int) - (r : Int)) = (t : Int) := by omega
          rw [hti]
          have hcap : hd.length ≤ hc := by
            obtain ⟨_, _, e, h, _⟩ := GHc.out
            cases e
            exact h
          have hmc : m ≤ hc := by omega
          have hmci : (m : Int) ≤ (hc : Int) := by omega
          have htP : t ≤ P := by omega
          have htPi : (t : Int) ≤ (P : Int) := by omega
          have htc : t ≤ lc := by omega
          have htci : (t : Int) ≤ (lc : Int) := by omega
          have hw1 : IntKind.i64.wrap (m : Int) = (m : Int) := wrapI _ (by omega)
          have HM : Hid (m = hd.length - k) := hm
          have HT : Hid (t = P - r) := ht
          clear hm ht hti
          have HAP : Hid (∀ W, Kept (fun _ => False) wc W → IntsV B W (.slice ha m hc) (hd.take m)) := fun W hk => (GHc.out.kept hk hBc).take m (by have := HM.out; omega)
          have HXS : Hid (∀ W, Kept (fun _ => False) wc W → IntsV B W (.slice (if lc = t then some ⟨lb, lo, none⟩ else some ⟨lb, lo + t, none⟩) (P - t) (lc - t)) ((lp.take P).drop t)) := fun W hk => (GLc.out.kept hk hBc).dropI t (by rw [HTL.out]; exact htP)
          have HYS : Hid (∀ W, Kept (fun _ => False) wc W → IntsV B W (.slice (some ⟨lb, lo, none⟩) t lc) ((lp.take P).take t)) := fun W hk => (GLc.out.kept hk hBc).take t (by rw [HTL.out]; exact htP)
          have L1 : Hid ((hd.take m).length = m) := by rw [Hid, List.length_take]; have := HM.out; omega
          have L2 : Hid (((lp.take P).drop t).length + ((lp.take P).take t).length = P) := by rw [Hid, List.length_drop, List.length_take (l := lp.take P), HTL.out]; omega
          have HBX : Hid (Box2 wc (w.heap.size + 1) (.slice none 0 0) (.slice none 0 0)) := hbc
          have hP20 : P ≤ 20000 := by omega
          have HKW : Hid (Kept (fun _ => False) w wc) := hkw
          clear hkw hbc GHc GLc
          go_region_law (first
            | (refine step_append_nil (B := B) (ys := hd.take m) (v := .slice ha m hc) m L1.out rfl (.const (.slice none 0 0)) (.tmp 51) 46 95 Tryd.underlying46 Tryd.underlying95 rfl rfl (by simp [Act.eval, Act.put]) (HAP.out _ (by first | exact (Kept.refl _ _).drew | exact ((Kept.refl _ _).drew).alloc _)) (fun aA cA wA hNA => ?_); have kA : Kept (fun _ => False) wc wA := (by first | exact Kept.trans (Kept.drew (Kept.refl _ _)) hNA.1 (fun _ _ f => f) | exact Kept.trans (Kept.alloc (Kept.drew (Kept.refl _ _)) _) hNA.1 (fun _ _ f => f)))
            | (refine step_concat (B := B) (xs := (lp.take P).drop t) (ys := (lp.take P).take t) (va := .slice (if lc = t then some ⟨lb, lo, none⟩ else some ⟨lb, lo + t, none⟩) (P - t) (lc - t)) (vb := .slice (some ⟨lb, lo, none⟩) t lc) P _ L2.out rfl (.tmp 59) #[162] rfl (by first | (simp [Act.eval]; done) | (simp [Act.eval]; rfl)) ?_ ?_ ?_ ?_ ?_ hP1 hP20 (fun bB cB wB hNB => ?_)
               (first | (rw [World.cell?_alloc_at (hn := rfl)]; rfl) | exact (hNA.1.cell (by simp) (fun f => f)).trans (by first | (simp [go_sem]; done) | (rw [World.cell?_drew, World.cell?_alloc_at (hn := by simp)]; rfl) | (show (World.alloc _ _).cell? _ = _; rw [World.cell?_alloc_at (hn := rfl)]; rfl)))
               (first | (rw [World.cell?_alloc_at (hn := rfl)]; rfl) | exact (hNA.1.cell (by simp) (fun f => f)).trans (by first | (simp [go_sem]; done) | (rw [World.cell?_drew, World.cell?_alloc_at (hn := by simp)]; rfl) | (show (World.alloc _ _).cell? _ = _; rw [World.cell?_alloc_at (hn := rfl)]; rfl)))
               (exact HXS.out _ (by first | exact kA | exact kA.alloc _))
               (exact HYS.out _ (by first | exact kA | exact kA.alloc _))
               (exact Nat.le_trans hBc (by first | exact kA.size | exact (kA.alloc _).size))
               have kB : Kept (fun _ => False) wc wB := (by first | exact Kept.trans kA hNB.1 (fun _ _ f => f) | exact Kept.trans (kA.alloc _) hNB.1 (fun _ _ f => f))
               obtain ⟨_, rB0, rB1, fB0, fB1⟩ := HBX.out.kept kB
               have hAB : wA.heap.size ≤ bB := (by first | exact (hNB.blk rfl).1 | exact Nat.le_trans (Nat.le_of_lt (by simp)) (hNB.blk rfl).1)))
          go_wp2
          rotate_left
          go_wp2
          all_goals
            have hwA : Kept (fun _ => False) wA wB := (by first | exact hNB.1 | exact Kept.trans ((Kept.refl _ _).alloc _) hNB.1 (fun _ _ f => f))
            have hNA2 : NewS wc wA aA cA (hd.take m) := (by first | exact hNA.rebase ((Kept.refl _ _).drew) | exact hNA.rebase (((Kept.refl _ _).drew).alloc _) | exact hNA.rebase (((Kept.refl _ _).alloc _).drew))
            have hNB2 : NewS wc wB (some ⟨bB, 0, none⟩) cB ((lp.take P).drop t ++ (lp.take P).take t) := (by first | exact hNB.rebase kA | exact hNB.rebase (kA.alloc _))
            have hlb := HBX.out.1
            refine bodyPost_ret (v := .agg #[.slice aA m cA, .slice (some ⟨bB, 0, none⟩) P cB]) (by simp [results, Tryd.results37, go_sem, rB0, rB1]) rfl ⟨?_, .inr ⟨HG.out, m, P, aA, cA, some ⟨bB, 0, none⟩, cB, rfl, ?_, ?_, ?_, ?_⟩⟩
            · exact ((Kept.trans HKW.out kB (fun _ _ f => f)).setCell (fun hh => absurd hh (by simp)) _).setCell (fun hh => absurd hh (by simp)) _
            · rw [HM.out]
              exact HBS.out.1
            · rw [cutW_take hd lp m (by have := HM.out; omega)]
              have hp : ∀ b o, aA = some ⟨b, o, none⟩ → w.heap.size + 1 ≠ b := fun b o e => by
                have := (hNA2.blk e).1
                omega
              exact (((hNA2.kept hwA).rebase HKW.out).set hp (by simp) _).set hp (by simp) _
            · rw [cutW_turn hd lp m P t hP1 hP2 htP (fun i => by rw [HM.out, HBS.out.2 i, ← HR.out, ← HT.out])]
              have hp : ∀ b o, some (⟨bB, 0, none⟩ : Addr) = some ⟨b, o, none⟩ → w.heap.size + 1 ≠ b := fun b o e => by
                have := (hNB2.blk e).1
                omega
              exact ((hNB2.rebase HKW.out).set hp (by simp) _).set hp (by simp) _
            · intro b o b' o' e e'
              have := (hNA2.blk e).2.1
              cases e'
              omega
end Go.Proofs.YtdbpdanocpfboaaDoor
