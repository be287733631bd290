import Derived.Test.YtdbpdanocpfboaaDoorZRpl
import Derived.Test.YtdbpdanocpfboaaDoorZBun06
/- The document's own answers: Plain; whether two Forms are the same. -/
namespace Go.Proofs.YtdbpdanocpfboaaDoor
open Go.RowKit

/-- what is plain, of any Form -/
def plainF (t : Tr) : Tr := if wellB t = true then plainT t false else .mk 1 0 []

set_option maxRecDepth 100000 in
set_option maxHeartbeats 2000000 in
theorem plain23 (w : World) (fv : Value) (t : Tr) (hv : RV w.heap.size w fv t) (hsz : t.size ≤ 268435456) :
    Calls Tryd.prog 23 #[fv] w fun e w' => ∃ v, e = .returned v ∧ Kept (fun _ => False) w w' ∧ RVS (fun b => w.heap.size ≤ b ∧ b < w'.heap.size) w' v (plainF t) := by
  obtain ⟨f0, f1, fa, fl, fc, rfl⟩ := hv.agg
  obtain ⟨W0, hW0⟩ : ∃ W0, W0 = ((w.alloc (.cells #[.int .i64 f0, .int .i64 f1, .slice fa fl fc] 30)).alloc (.cells #[.int .i64 0, .int .i64 0, .slice none 0 0] 30)) := ⟨_, rfl⟩
  have k0 : Kept (fun _ => False) w W0 := by rw [hW0]; exact ((Kept.refl _ _).alloc _).alloc _
  have x0 : Wb3 W0 w.heap.size (.int .i64 f0) (.int .i64 f1) (.slice fa fl fc) := by rw [hW0]; exact (Wb3.new w _ _ _ 30).kept ((Kept.refl _ _).alloc _)
  have r0 : Wb3 W0 (w.heap.size + 1) (.int .i64 0) (.int .i64 0) (.slice none 0 0) := by
    rw [hW0]
    have h := Wb3.new (w.alloc (.cells #[.int .i64 f0, .int .i64 f1, .slice fa fl fc] 30)) (.int .i64 0) (.int .i64 0) (.slice none 0 0) 30
    simpa using h
  have HV : Hid (RV W0.heap.size W0 (.agg #[.int .i64 f0, .int .i64 f1, .slice fa fl fc]) t) := RV.kept hv k0
  have hr0 : w.heap.size + 1 < W0.heap.size := r0.1
  obtain ⟨_, ⟨x00, x01, x02⟩, _⟩ := id x0
  clear hv
  go_enter Tryd.func23, Tryd.ntmps23
  go_upto_region 1 with fail
  rw [← hW0]
  clear hW0
  cases hwa : wellB t with
  | false =>
    have HWA : Hid (wellB t = false) := hwa
    have HP : Hid (plainF t = .mk 1 0 []) := by simp [Hid, plainF, hwa]
    clear hwa
    go_wp2_with (go_at_call 24; refine (well24 268435456 t hsz _ _ _ HV.out (Nat.le_refl _) (by omega)).mono ?_; rintro e w1 ⟨k1, rfl⟩; rw [HWA.out]; obtain ⟨_, ⟨r10, r11, r12⟩, r13, r14, r15⟩ := r0.kept k1)
    have hf := fin57 (x := .int .i64 1) (y := .int .i64 0) (z := .slice none 0 0) (r := w.heap.size + 1) (k0.trans k1 (fun _ _ f => f)) (by omega) hr0 (RVS.leaf (fun b => W0.heap.size ≤ b ∧ b < w1.heap.size) w1 1 0)
    refine bodyPost_ret (v := .agg #[.int .i64 1, .int .i64 0, .slice none 0 0]) (by simp [results, Tryd.results23, go_sem, r10, r11, r12]) rfl ⟨_, rfl, hf.1, ?_⟩
    rw [HP.out]
    exact hf.2
  | true =>
    have HWA : Hid (wellB t = true) := hwa
    have htw : t.well := (wellB_iff t).1 hwa
    have HP : Hid (plainF t = plainT t false) := by simp [Hid, plainF, hwa]
    clear hwa
    go_upto_region 3 with (go_at_call 24; refine (well24 268435456 t hsz _ _ _ HV.out (Nat.le_refl _) (by omega)).mono ?_; rintro e w1 ⟨k1, rfl⟩; rw [HWA.out])
    have k01 := k0.trans k1 (fun _ _ f => f)
    have r1 := r0.kept k1
    obtain ⟨_, ⟨x10, x11, x12⟩, _⟩ := x0.kept k1
    have HV1 : Hid (RV w1.heap.size w1 (.agg #[.int .i64 f0, .int .i64 f1, .slice fa fl fc]) t) := HV.out.new k1
    have hr1 := r1.1
    clear x00 x01 x02 x0 r0
    go_wp2_with (go_at_call 57; refine (plain57 268435456 t hsz htw _ _ false HV1.out).mono ?_; rintro e w2 ⟨v', rfl, k2, hF2⟩; obtain ⟨oA, nA, aA, lA, cA, rfl⟩ := hF2.agg; obtain ⟨_, ⟨r20, r21, r22⟩, r23, r24, r25⟩ := r1.kept k2; have HF2 : Hid (RVS (fun b => w1.heap.size ≤ b ∧ b < w2.heap.size) w2 (.agg #[.int .i64 oA, .int .i64 nA, .slice aA lA cA]) (plainT t false)) := hF2; clear hF2)
    have hf := fin57 (x := .int .i64 oA) (y := .int .i64 nA) (z := .slice aA lA cA) (r := w.heap.size + 1) (k01.trans k2 (fun _ _ f => f)) (by omega) hr1 HF2.out
    refine bodyPost_ret (v := .agg #[.int .i64 oA, .int .i64 nA, .slice aA lA cA]) (by simp [results, Tryd.results23, go_sem, r20, r21, r22]) rfl ⟨_, rfl, hf.1, ?_⟩
    rw [HP.out]
    exact hf.2

mutual
/-- are two formulas the same? -/
def sameT : Tr → Tr → Bool
  | .mk op n ks, .mk op' n' ks' => decide (op = op') && decide (n = n') && decide (ks.length = ks'.length) && sameTs ks ks'
def sameTs : List Tr → List Tr → Bool
  | t :: r, t' :: r' => sameT t t' && sameTs r r'
  | _, _ => true
end
mutual
theorem sameT_iff : ∀ t t' : Tr, sameT t t' = true ↔ t = t'
  | .mk op n ks, .mk op' n' ks' => by
    simp only [sameT, Bool.and_eq_true, decide_eq_true_eq, Tr.mk.injEq]
    constructor
    · rintro ⟨⟨⟨h1, h2⟩, h3⟩, h4⟩
      exact ⟨h1, h2, (sameTs_iff ks ks' h3).1 h4⟩
    · rintro ⟨rfl, rfl, rfl⟩
      exact ⟨⟨⟨rfl, rfl⟩, rfl⟩, (sameTs_iff ks ks rfl).2 rfl⟩
theorem sameTs_iff : ∀ l l' : List Tr, l.length = l'.length → (sameTs l l' = true ↔ l = l')
  | [], [], _ => by simp [sameTs]
  | t :: r, t' :: r', h => by
    simp only [sameTs, Bool.and_eq_true, List.cons.injEq, sameT_iff t t', sameTs_iff r r' (by simpa using h)]
end
theorem sameTs_all (l l' : List Tr) (h : l.length = l'.length) : sameTs l l' = true ↔ ∀ (k : Nat) (h1 : k < l.length) (h2 : k < l'.length), sameT l[k] l'[k] = true := by
  rw [sameTs_iff l l' h]
  constructor
  · rintro rfl k _ _
    exact (sameT_iff _ _).2 rfl
  · intro hh
    exact List.ext_getElem h (fun k h1 h2 => (sameT_iff _ _).1 (hh k h1 h2))

def Says130 (N : Nat) : Prop := ∀ (t t' : Tr), t.size ≤ N → N ≤ 268435456 → ∀ (w : World) (B : Nat) (av bv : Value), RV B w av t → RV B w bv t' → B ≤ w.heap.size →
    Calls Tryd.prog 130 #[av, bv] w fun e w' => Kept (fun _ => False) w w' ∧ e = .returned (.bool (sameT t t'))

set_option maxRecDepth 100000 in
set_option maxHeartbeats 8000000 in
theorem same130 : ∀ (N : Nat), Says130 N := by
  intro N
  induction N with
  | zero => intro t t' ht; have := t.size_pos; omega
  | succ N ih =>
    intro t t' ht hN w B av bv hA hC hB
    obtain ⟨op, nn, kids⟩ := t
    obtain ⟨op', nn', kids'⟩ := t'
    obtain ⟨a1, b1, p1, c1, rfl, e1, g1⟩ := hA
    obtain ⟨a2, b2, p2, c2, rfl, e2, g2⟩ := hC
    have IH : Hid (Says130 N) := ih
    have E1 : Hid (0 < kids.length → a1 = some ⟨b1, p1, none⟩) := e1
    have E2 : Hid (0 < kids'.length → a2 = some ⟨b2, p2, none⟩) := e2
    have G1 : Hid (RsAt B w b1 p1 kids) := g1
    have G2 : Hid (RsAt B w b2 p2 kids') := g2
    have hsz : Tr.sizes kids ≤ N := by simp only [Tr.size] at ht; omega
    have hkl : kids.length ≤ N := by
      have : ∀ l : List Tr, l.length ≤ Tr.sizes l := by
        intro l
        induction l with
        | nil => simp
        | cons t r ih => have := t.size_pos; simp [Tr.sizes]; omega
      exact Nat.le_trans (this kids) hsz
    clear ih e1 e2 g1 g2 ht
    obtain ⟨W0, hW0⟩ : ∃ W0, W0 = ((w.alloc (.cells #[.int .i64 op, .int .i64 nn, .slice a1 kids.length c1] 30)).alloc (.cells #[.int .i64 op', .int .i64 nn', .slice a2 kids'.length c2] 30)) := ⟨_, rfl⟩
    have k0 : Kept (fun _ => False) w W0 := by rw [hW0]; exact ((Kept.refl _ _).alloc _).alloc _
    have x0 : Wb3 W0 w.heap.size (.int .i64 op) (.int .i64 nn) (.slice a1 kids.length c1) := by rw [hW0]; exact (Wb3.new w _ _ _ 30).kept ((Kept.refl _ _).alloc _)
    have y0 : Wb3 W0 (w.heap.size + 1) (.int .i64 op') (.int .i64 nn') (.slice a2 kids'.length c2) := by
      rw [hW0]
      have h := Wb3.new (w.alloc (.cells #[.int .i64 op, .int .i64 nn, .slice a1 kids.length c1] 30)) (.int .i64 op') (.int .i64 nn') (.slice a2 kids'.length c2) 30
      simpa using h
    obtain ⟨_, ⟨x00, x01, x02⟩, _⟩ := id x0
    obtain ⟨_, ⟨y00, y01, y02⟩, _⟩ := id y0
    have X0 : Hid (Wb3 W0 w.heap.size (.int .i64 op) (.int .i64 nn) (.slice a1 kids.length c1)) := x0
    have Y0 : Hid (Wb3 W0 (w.heap.size + 1) (.int .i64 op') (.int .i64 nn') (.slice a2 kids'.length c2)) := y0
    have K0 : Hid (Kept (fun _ => False) w W0) := k0
    clear x0 y0 k0
    obtain ⟨sb, hsb⟩ : ∃ sb, sameT (.mk op nn kids) (.mk op' nn' kids') = sb := ⟨_, rfl⟩
    rw [hsb]
    have HSB : Hid (sameT (.mk op nn kids) (.mk op' nn' kids') = sb) := hsb
    clear hsb
    go_enter Tryd.func130, Tryd.ntmps130
    go_upto_region 1 with fail
    rw [← hW0]
    clear hW0
    by_cases h1 : op = op'
    · have b1e : (op != op') = false := by simpa using h1
      by_cases h2 : nn = nn'
      · have b2e : (nn != nn') = false := by simpa using h2
        by_cases h3 : kids.length = kids'.length
        · have b3e : ((kids.length : Int) != (kids'.length : Int)) = false := by simp; omega
          have HL : Hid (kids.length = kids'.length) := h3
          have HO : Hid (op = op' ∧ nn = nn') := ⟨h1, h2⟩
          clear h1 h2 h3
          go_wp2
          go_loopw [4, 5, 6] (fun _ v5 _ wr => ∃ k : Nat, k ≤ kids.length ∧ v5 = .int .i64 (k : Int) ∧ Kept (fun _ => False) W0 wr ∧ ∀ j (g1 : j < kids.length) (g2 : j < kids'.length), j < k → sameT kids[j] kids'[j] = true) (fun _ v5 _ _ => kids.length - (intOf v5).toNat)
          case atStart => exact ⟨0, Nat.zero_le _, rfl, Kept.refl _ _, fun j _ _ h => absurd h (by omega)⟩
          case round =>
            obtain ⟨k, hk, rfl, hkr, hall⟩ := hrel
            have HALL : Hid (∀ j (g1 : j < kids.length) (g2 : j < kids'.length), j < k → sameT kids[j] kids'[j] = true) := hall
            clear hall x00 x01 x02 y00 y01 y02
            obtain ⟨_, ⟨x10, x11, x12⟩, _⟩ := X0.out.kept hkr
            obtain ⟨_, ⟨y10, y11, y12⟩, _⟩ := Y0.out.kept hkr
            have kwr := K0.out.trans hkr (fun _ _ f => f)
            by_cases hlt : k < kids.length
            · have hlti : (k : Int) < (kids.length : Int) := by omega
              have hnle : ¬ ((kids.length : Int) ≤ (k : Int)) := by omega
              have hlt' : k < kids'.length := by have := HL.out; omega
              have hnle' : ¬ ((kids'.length : Int) ≤ (k : Int)) := by omega
              have ea := E1.out (by omega)
              have eb := E2.out (by omega)
              subst ea
              subst eb
              obtain ⟨u1, hu1⟩ : ∃ t1, kids[k] = t1 := ⟨_, rfl⟩
              obtain ⟨u2, hu2⟩ : ∃ t1, kids'[k] = t1 := ⟨_, rfl⟩
              have hts : u1.size ≤ N := Nat.le_trans (Tr.sizes_mem (by rw [← hu1]; exact List.getElem_mem hlt)) hsz
              have hg1 := (RsAt.below (kwr.below hB (fun _ f => f.elim)) G1.out).get (List.getElem?_eq_getElem hlt)
              have hg2 := (RsAt.below (kwr.below hB (fun _ f => f.elim)) G2.out).get (List.getElem?_eq_getElem hlt')
              rw [hu1] at hg1
              rw [hu2] at hg2
              have HU1 : Hid (kids[k] = u1) := hu1
              have HU2 : Hid (kids'[k] = u2) := hu2
              clear hu1 hu2
              obtain ⟨o3, n3, ks3⟩ := u1
              obtain ⟨o4, n4, ks4⟩ := u2
              obtain ⟨ka, kc, s0, s1, s2, hFa⟩ := hg1.val
              obtain ⟨kb, kd, r0, r1, r2, hFb⟩ := hg2.val
              have HA : Hid (RV B wr (.agg #[.int .i64 o3, .int .i64 n3, .slice ka ks3.length kc]) (.mk o3 n3 ks3)) := hFa
              have HC : Hid (RV B wr (.agg #[.int .i64 o4, .int .i64 n4, .slice kb ks4.length kd]) (.mk o4 n4 ks4)) := hFb
              have hBr := Nat.le_trans hB kwr.size
              clear hFa hFb hg1 hg2
              obtain ⟨cb, hcb⟩ : ∃ cb, sameT (.mk o3 n3 ks3) (.mk o4 n4 ks4) = cb := ⟨_, rfl⟩
              have HCB : Hid (sameT (.mk o3 n3 ks3) (.mk o4 n4 ks4) = cb) := hcb
              clear hcb
              go_upto_region 6 with fail
              cases cb with
              | false =>
                have HF : Hid (sb = false) := by
                  rw [Hid, ← HSB.out]
                  cases hx : sameT (.mk op nn kids) (.mk op' nn' kids') with
                  | false => rfl
                  | true =>
                    have := (sameT_iff _ _).1 hx
                    simp only [Tr.mk.injEq] at this
                    have e := (sameTs_all kids kids' HL.out).1 ((sameTs_iff kids kids' HL.out).2 this.2.2) k hlt hlt'
                    rw [HU1.out, HU2.out, HCB.out] at e
                    cases e
                go_region_with (go_at_call 130; refine (IH.out (.mk o3 n3 ks3) (.mk o4 n4 ks4) hts (by omega) _ B _ _ ?_ ?_ ?_).mono ?_; (exact HA.out.below ((Kept.drew (Kept.refl (fun _ => False) _)).below hBr (fun _ f => f.elim))); (exact HC.out.below ((Kept.drew (Kept.refl (fun _ => False) _)).below hBr (fun _ f => f.elim))); (exact hBr); rintro e w4 ⟨k4, rfl⟩; rw [HCB.out])
                all_goals
                  go_wp2
                  go_ret
                  exact ⟨kwr.trans (Kept.trans (Kept.drew (Kept.refl _ _)) k4 (fun _ _ f => f)) (fun _ _ f => f), ret_bool HF.out.symm⟩
              | true =>
                go_region_with (go_at_call 130; refine (IH.out (.mk o3 n3 ks3) (.mk o4 n4 ks4) hts (by omega) _ B _ _ ?_ ?_ ?_).mono ?_; (exact HA.out.below ((Kept.drew (Kept.refl (fun _ => False) _)).below hBr (fun _ f => f.elim))); (exact HC.out.below ((Kept.drew (Kept.refl (fun _ => False) _)).below hBr (fun _ f => f.elim))); (exact hBr); rintro e w4 ⟨k4, rfl⟩; rw [HCB.out])
                all_goals
                  go_wp2
                  go_roundw
                  case rel => exact ⟨k + 1, by omega, by go_num, hkr.trans (Kept.trans (Kept.drew (Kept.refl _ _)) k4 (fun _ _ f => f)) (fun _ _ f => f), fun j g1 g2 hj => by
                    rcases Nat.lt_succ_iff_lt_or_eq.1 hj with h | rfl
                    · exact HALL.out j g1 g2 h
                    · rw [HU1.out, HU2.out]; exact HCB.out⟩
                  case measure => simp [intOf]; omega
            · have hlti : ¬ (k : Int) < (kids.length : Int) := by omega
              have HF : Hid (sb = true) := by
                rw [Hid, ← HSB.out, sameT_iff]
                have := (sameTs_iff kids kids' HL.out).1 ((sameTs_all kids kids' HL.out).2 (fun j g1 g2 => HALL.out j g1 g2 (by omega)))
                rw [HO.out.1, HO.out.2, this]
              go_wp2
              go_ret
              exact ⟨kwr, ret_bool HF.out.symm⟩
        · have b3e : ((kids.length : Int) != (kids'.length : Int)) = true := by simp; omega
          have HF : Hid (sb = false) := by rw [Hid, ← HSB.out, sameT]; simp [h3]
          clear h1 h2 h3
          go_wp2
          go_ret
          exact ⟨K0.out, ret_bool HF.out.symm⟩
      · have b2e : (nn != nn') = true := by simpa using h2
        have HF : Hid (sb = false) := by rw [Hid, ← HSB.out, sameT]; simp [h2]
        clear h1 h2
        go_wp2
        go_ret
        exact ⟨K0.out, ret_bool HF.out.symm⟩
    · have b1e : (op != op') = true := by simpa using h1
      have HF : Hid (sb = false) := by rw [Hid, ← HSB.out, sameT]; simp [h1]
      clear h1
      go_wp2
      go_ret
      exact ⟨K0.out, ret_bool HF.out.symm⟩
end Go.Proofs.YtdbpdanocpfboaaDoor
