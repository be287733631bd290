/- The document's own answer: is a Form a formula of letters? -/
import Derived.Test.YtdbpdanocpfboaaDoorVCopy
import Derived.Test.YtdbpdanocpfboaaDoorVRef3
namespace Go.Proofs.YtdbpdanocpfboaaDoor
open Go.RowKit

def kidR (op : Int) : Int := if 0 ≤ op ∧ op < 12 then kidC op else -1
def wellNB (op n : Int) (kl : Nat) : Bool := decide (0 ≤ op ∧ op < 12 ∧ (kl : Int) = kidC op ∧ 0 ≤ n ∧ n ≤ topN op)
theorem wellNB_iff (op n : Int) (kl : Nat) : wellNB op n kl = true ↔ wellN op n kl := by simp [wellNB, wellN]
mutual
def wellB : Tr → Bool
  | .mk o m k => wellNB o m k.length && wellsB k
def wellsB : List Tr → Bool
  | [] => true
  | t :: r => wellB t && wellsB r
end
mutual
theorem wellB_iff : ∀ t : Tr, wellB t = true ↔ t.well
  | .mk o m k => by simp [wellB, Tr.well, wellNB_iff, wellsB_iff k]
theorem wellsB_iff : ∀ l : List Tr, wellsB l = true ↔ Tr.wells l
  | [] => by simp [wellsB, Tr.wells]
  | t :: r => by simp [wellsB, Tr.wells, wellB_iff t, wellsB_iff r]
end
theorem wellsB_all : ∀ l : List Tr, wellsB l = true ↔ ∀ j (h : j < l.length), wellB l[j] = true
  | [] => by simp [wellsB]
  | t :: r => by
    simp only [wellsB, Bool.and_eq_true, wellsB_all r]
    constructor
    · rintro ⟨h1, h2⟩ j hj
      match j with
      | 0 => exact h1
      | j + 1 => exact h2 j (by simpa using hj)
    · intro h
      exact ⟨h 0 (by simp), fun j hj => h (j + 1) (by simpa using hj)⟩

set_option maxRecDepth 100000 in
set_option maxHeartbeats 1000000 in
theorem kids59 (w : World) (op : Int) : Calls Tryd.prog 58 #[.int .i64 op] w fun e w' => Kept (fun _ => False) w w' ∧ e = .returned (.int .i64 (kidR op)) := by
  by_cases h : 0 ≤ op ∧ op < 12
  · obtain ⟨m, rfl⟩ : ∃ m : Nat, op = m := ⟨op.toNat, by omega⟩
    have hm : m < 12 := by omega
    match m, hm with
    | 0, _ | 1, _ | 2, _ | 3, _ | 4, _ | 5, _ | 6, _ | 7, _ | 8, _ | 9, _ | 10, _ | 11, _ =>
      go_enter Tryd.func58, Tryd.ntmps58
      go_wp2
      go_ret
      exact ⟨Kept.refl _ _, ret_int (by decide)⟩
  · have e0 : (op == 0) = false := by simp; omega
    have e1 : (op == 1) = false := by simp; omega
    have e2 : (op == 2) = false := by simp; omega
    have e3 : (op == 3) = false := by simp; omega
    have e4 : (op == 4) = false := by simp; omega
    have e5 : (op == 5) = false := by simp; omega
    have e6 : (op == 6) = false := by simp; omega
    have e7 : (op == 7) = false := by simp; omega
    have e8 : (op == 8) = false := by simp; omega
    have e9 : (op == 9) = false := by simp; omega
    have e10 : (op == 10) = false := by simp; omega
    have e11 : (op == 11) = false := by simp; omega
    have HE : Hid (kidR op = -1) := by rw [Hid, kidR, if_neg h]
    clear h
    go_enter Tryd.func58, Tryd.ntmps58
    go_wp2
    go_ret
    exact ⟨Kept.refl _ _, ret_int HE.out.symm⟩

/-- a goal that is not to be looked into -/
structure Blk (p : Prop) : Prop where
  out : p
theorem blk_step {P : Program} {ops : Array Oper} {C : World → Prop} {Q : Act → Prop} {a : Act} {o : Oper} {rest : List Oper}
    (h : ∀ K : Act → Prop, (∀ a, Blk (wpQuiet P ops C Q rest a) → K a) → if Region.wanted o (yielded ops a.tmps) then o.quiet P a C K else K (a.put o.dst undef)) : Blk (wpQuiet P ops C Q (o :: rest) a) :=
  ⟨wpQuiet_step fun K hK => h K fun a ha => hK a ha.out⟩
theorem blk_nil {P : Program} {ops : Array Oper} {C : World → Prop} {Q : Act → Prop} {a : Act} (h : Q a) : Blk (wpQuiet P ops C Q [] a) := ⟨wpQuiet_nil h⟩
theorem wp_region_blk_kept {P : Program} {id : Nat} {Q : Exit → Act → World → Prop} {a : Act} {w : World} {l : List Oper} (hm : P.follows .mixedOrders = true) (hB : Region.lexB .any l.toArray = true)
    (h : Blk (wpQuiet P l.toArray (fun w' => ∃ U : KW w, w' = U.1) (fun a' => ∀ w', (∃ U : KW w, w' = U.1) → Q .normal a' w') l a)) : (Code.region id l.toArray true).wp P Q a w :=
  wp_region_quiet_kept hm hB h.out
theorem kids59r (w : World) (op kr : Int) (h : kidR op = kr) : Calls Tryd.prog 58 #[.int .i64 op] w fun e w' => Kept (fun _ => False) w w' ∧ e = .returned (.int .i64 kr) := by
  subst h
  exact kids59 w op
theorem wellNB_no {op n : Int} {kl : Nat} (h : kidR op ≠ (kl : Int) ∨ n < 0 ∨ 8 ≤ n ∨ (op ≠ 2 ∧ n ≠ 0)) : wellNB op n kl = false := by
  cases hb : wellNB op n kl with
  | false => rfl
  | true =>
    obtain ⟨h1, h2, h3, h4, h5⟩ := (wellNB_iff op n kl).1 hb
    rw [kidR, if_pos ⟨h1, h2⟩] at h
    unfold topN at h5
    split at h5 <;> omega
theorem wellNB_yes {op n : Int} {kl : Nat} (h : kidR op = (kl : Int)) (h0 : 0 ≤ n) (h1 : n < 8) (h2 : op = 2 ∨ n = 0) : wellNB op n kl = true := by
  refine (wellNB_iff op n kl).2 ?_
  unfold kidR at h
  split at h
  · rename_i hh
    refine ⟨hh.1, hh.2, h.symm, h0, ?_⟩
    unfold topN
    split <;> omega
  · omega

set_option maxRecDepth 100000 in
set_option maxHeartbeats 4000000 in
theorem well24 : ∀ (N : Nat) (t : Tr), t.size ≤ N → ∀ (w : World) (B : Nat) (v : Value), RV B w v t → B ≤ w.heap.size → N ≤ 268435456 →
    Calls Tryd.prog 24 #[v] w fun e w' => Kept (fun _ => False) w w' ∧ e = .returned (.bool (wellB t)) := by
  intro N
  induction N with
  | zero => intro t ht; have := t.size_pos; omega
  | succ N ih =>
    intro t ht w B v hv hB hN
    obtain ⟨op, n, kids⟩ := t
    obtain ⟨ka, kb, ko, kc, rfl, hka, hks⟩ := hv
    have IH : Hid (∀ (t : Tr), t.size ≤ N → ∀ (w : World) (B : Nat) (v : Value), RV B w v t → B ≤ w.heap.size → N ≤ 268435456 → Calls Tryd.prog 24 #[v] w fun e w' => Kept (fun _ => False) w w' ∧ e = .returned (.bool (wellB t))) := ih
    clear ih
    have hsz : Tr.sizes kids ≤ N := by simp only [Tr.size] at ht; omega
    have hkl : kids.length ≤ N := by
      have : ∀ l : List Tr, l.length ≤ Tr.sizes l := by
        intro l
        induction l with
        | nil => simp
        | cons t r ih => have := t.size_pos; simp [Tr.sizes]; omega
      exact Nat.le_trans (this kids) hsz
    obtain ⟨w1, hw1⟩ : ∃ w1, w1 = w.alloc (.cells #[.int .i64 op, .int .i64 n, .slice ka kids.length kc] 30) := ⟨_, rfl⟩
    have k1 : Kept (fun _ => False) w w1 := by rw [hw1]; exact (Kept.refl _ _).alloc _
    have c0 : w1.cell? ⟨w.heap.size, 0, none⟩ = some (.int .i64 op) := by rw [hw1]; simp [go_sem]
    have c1 : w1.cell? ⟨w.heap.size, 1, none⟩ = some (.int .i64 n) := by rw [hw1]; simp [go_sem]
    have c2 : w1.cell? ⟨w.heap.size, 2, none⟩ = some (.slice ka kids.length kc) := by rw [hw1]; simp [go_sem]
    go_enter Tryd.func24, Tryd.ntmps24
    go_upto_region 1 with fail
    rw [← hw1]
    clear hw1
    have HKS : Hid (RsAt B w1 kb ko kids) := RsAt.below (k1.below hB (fun _ f => f.elim)) hks
    have hB1 := Nat.le_trans hB k1.size
    have HKA : Hid (0 < kids.length → ka = some ⟨kb, ko, none⟩) := hka
    clear hks hka ht
    have U0 : ∀ U : KW w1, U.1.cell? ⟨w.heap.size, 0, none⟩ = some (.int .i64 op) := fun U => U.cell c0
    have U1 : ∀ U : KW w1, U.1.cell? ⟨w.heap.size, 1, none⟩ = some (.int .i64 n) := fun U => U.cell c1
    have U2 : ∀ U : KW w1, U.1.cell? ⟨w.heap.size, 2, none⟩ = some (.slice ka kids.length kc) := fun U => U.cell c2
    obtain ⟨kr, hkr⟩ : ∃ kr, kidR op = kr := ⟨_, rfl⟩
    have HKR : Hid (kidR op = kr) := hkr
    go_cut [31] (fun v31 wc => Kept (fun _ => False) w1 wc ∧ v31 = .bool (!wellNB op n kids.length))
    case first =>
      by_cases hA : kr = (kids.length : Int)
      · have bA : (kr != (kids.length : Int)) = false := by simpa using hA
        by_cases hBn : n < 0
        · have HNB : Hid (wellNB op n kids.length = false) := wellNB_no (.inr (.inl hBn))
          clear hkr hA
          refine wp_region_blk_kept (by kernel_rfl) (by kernel_rfl) ?_
          repeat (refine blk_step (fun K hK => ?_); go_simp; first | (refine hK _ ?_; clear hK K) | (apply Exists.intro; refine ⟨fun U => ?_, hK _ ?_⟩; (go_at_call 58; exact Calls.quiet_kept (kids59r _ _ kr HKR.out)); clear hK K))
          refine blk_nil ?_
          intro w4 hw'
          have k4 : Kept (fun _ => False) w1 w4 := by
            obtain ⟨U, rfl⟩ := hw'
            exact U.2
          clear hw'
          go_wp2_with fail
          go_meet
          case rel => exact ⟨k4, by simp [HNB.out]⟩
        · by_cases hCn : 8 ≤ n
          · have HNB : Hid (wellNB op n kids.length = false) := wellNB_no (.inr (.inr (.inl hCn)))
            clear hkr hA
            refine wp_region_blk_kept (by kernel_rfl) (by kernel_rfl) ?_
            repeat (refine blk_step (fun K hK => ?_); go_simp; first | (refine hK _ ?_; clear hK K) | (apply Exists.intro; refine ⟨fun U => ?_, hK _ ?_⟩; (go_at_call 58; exact Calls.quiet_kept (kids59r _ _ kr HKR.out)); clear hK K))
            refine blk_nil ?_
            intro w4 hw'
            have k4 : Kept (fun _ => False) w1 w4 := by
              obtain ⟨U, rfl⟩ := hw'
              exact U.2
            clear hw'
            go_wp2_with fail
            go_meet
            case rel => exact ⟨k4, by simp [HNB.out]⟩
          · have hCi : ¬ (n ≥ 8) := by omega
            by_cases hD : op = 2
            · have HNB : Hid (wellNB op n kids.length = true) := wellNB_yes (by rw [hkr, hA]) (by omega) (by omega) (.inl hD)
              clear hkr hA
              subst hD
              refine wp_region_blk_kept (by kernel_rfl) (by kernel_rfl) ?_
              repeat (refine blk_step (fun K hK => ?_); go_simp; first | (refine hK _ ?_; clear hK K) | (apply Exists.intro; refine ⟨fun U => ?_, hK _ ?_⟩; (go_at_call 58; exact Calls.quiet_kept (kids59r _ _ kr HKR.out)); clear hK K))
              refine blk_nil ?_
              intro w4 hw'
              have k4 : Kept (fun _ => False) w1 w4 := by
                obtain ⟨U, rfl⟩ := hw'
                exact U.2
              clear hw'
              go_wp2_with fail
              go_meet
              case rel => exact ⟨k4, by simp [HNB.out]⟩
            · have bD : (op != 2) = true := by simpa using hD
              by_cases hE : n = 0
              · have HNB : Hid (wellNB op n kids.length = true) := wellNB_yes (by rw [hkr, hA]) (by omega) (by omega) (.inr hE)
                clear hkr hA
                subst hE
                refine wp_region_blk_kept (by kernel_rfl) (by kernel_rfl) ?_
                repeat (refine blk_step (fun K hK => ?_); go_simp; first | (refine hK _ ?_; clear hK K) | (apply Exists.intro; refine ⟨fun U => ?_, hK _ ?_⟩; (go_at_call 58; exact Calls.quiet_kept (kids59r _ _ kr HKR.out)); clear hK K))
                refine blk_nil ?_
                intro w4 hw'
                have k4 : Kept (fun _ => False) w1 w4 := by
                  obtain ⟨U, rfl⟩ := hw'
                  exact U.2
                clear hw'
                go_wp2_with fail
                go_meet
                case rel => exact ⟨k4, by simp [HNB.out]⟩
              · have HNB : Hid (wellNB op n kids.length = false) := wellNB_no (.inr (.inr (.inr ⟨hD, hE⟩)))
                have bE : (n != 0) = true := by simpa using hE
                clear hkr hA
                refine wp_region_blk_kept (by kernel_rfl) (by kernel_rfl) ?_
                repeat (refine blk_step (fun K hK => ?_); go_simp; first | (refine hK _ ?_; clear hK K) | (apply Exists.intro; refine ⟨fun U => ?_, hK _ ?_⟩; (go_at_call 58; exact Calls.quiet_kept (kids59r _ _ kr HKR.out)); clear hK K))
                refine blk_nil ?_
                intro w4 hw'
                have k4 : Kept (fun _ => False) w1 w4 := by
                  obtain ⟨U, rfl⟩ := hw'
                  exact U.2
                clear hw'
                go_wp2_with fail
                go_meet
                case rel => exact ⟨k4, by simp [HNB.out]⟩
      · have bA : (kr != (kids.length : Int)) = true := by simpa using hA
        have HNB : Hid (wellNB op n kids.length = false) := wellNB_no (.inl (by rw [hkr]; exact hA))
        clear hkr hA
        refine wp_region_blk_kept (by kernel_rfl) (by kernel_rfl) ?_
        repeat (refine blk_step (fun K hK => ?_); go_simp; first | (refine hK _ ?_; clear hK K) | (apply Exists.intro; refine ⟨fun U => ?_, hK _ ?_⟩; (go_at_call 58; exact Calls.quiet_kept (kids59r _ _ kr HKR.out)); clear hK K))
        refine blk_nil ?_
        intro w4 hw'
        have k4 : Kept (fun _ => False) w1 w4 := by
          obtain ⟨U, rfl⟩ := hw'
          exact U.2
        clear hw'
        go_wp2_with fail
        go_meet
        case rel => exact ⟨k4, by simp [HNB.out]⟩
    case rest =>
      obtain ⟨kc1, rfl⟩ := hcut
      clear U0 U1 U2 hkr HKR
      have kwc := k1.trans kc1 (fun _ _ f => f)
      cases hnb : wellNB op n kids.length with
      | false =>
        have HE : Hid (wellB (.mk op n kids) = false) := by simp [Hid, wellB, hnb]
        clear hnb
        go_wp2
        go_ret
        exact ⟨kwc, ret_bool HE.out.symm⟩
      | true =>
        have HNB : Hid _ := hnb
        clear hnb
        have d2 := (kc1.cell (lt_of_cell c2) (fun f => f)).trans c2
        have HKS2 : Hid (RsAt B wc kb ko kids) := RsAt.below (kc1.below hB1 (fun _ f => f.elim)) HKS.out
        have hBc := Nat.le_trans hB1 kc1.size
        clear c0 c1 c2 HKS
        go_wp2
        go_loopw [2, 3, 4] (fun _ v3 _ wr => ∃ k : Nat, k ≤ kids.length ∧ v3 = .int .i64 (k : Int) ∧ Kept (fun _ => False) wc wr ∧ ∀ j (h : j < kids.length), j < k → wellB kids[j] = true) (fun _ v3 _ _ => kids.length - (intOf v3).toNat)
        case atStart => exact ⟨0, Nat.zero_le _, rfl, Kept.refl _ _, fun j _ h => absurd h (by omega)⟩
        case round =>
          obtain ⟨k, hk, rfl, hkr, hall⟩ := hrel
          have HALL : Hid (∀ j (h : j < kids.length), j < k → wellB kids[j] = true) := hall
          clear hall
          have q2 := (hkr.cell (lt_of_cell d2) (fun f => f)).trans d2
          have kwr := kwc.trans hkr (fun _ _ f => f)
          by_cases hlt : k < kids.length
          · have hlti : (k : Int) < (kids.length : Int) := by omega
            have hka' := HKA.out (by omega)
            subst hka'
            have HK : Hid (RAt B wr kb (ko + k * 3) kids[k]) := (RsAt.below (hkr.below hBc (fun _ f => f.elim)) HKS2.out).get (List.getElem?_eq_getElem hlt)
            obtain ⟨t', ht'⟩ : ∃ t', kids[k] = t' := ⟨_, rfl⟩
            have HT' : Hid (kids[k] = t') := ht'
            have hts : t'.size ≤ N := Nat.le_trans (Tr.sizes_mem (by rw [← ht']; exact List.getElem_mem hlt)) hsz
            rw [ht'] at HK
            clear ht'
            obtain ⟨op', n', ks'⟩ := t'
            obtain ⟨hbB, g0, g1, ka', kb', ko', kc', g2, hka', hks'⟩ := HK.out
            have HRV : Hid (RV B wr (.agg #[.int .i64 op', .int .i64 n', .slice ka' ks'.length kc']) (.mk op' n' ks')) := ⟨ka', kb', ko', kc', rfl, hka', hks'⟩
            have hBr := Nat.le_trans hBc hkr.size
            clear HK hka' hks'
            cases hwb : wellB (.mk op' n' ks') with
            | false =>
              have HWB : Hid (wellB (.mk op' n' ks') = false) := hwb
              have HE : Hid (wellB (.mk op n kids) = false) := by
                rw [Hid]
                cases hb : wellB (.mk op n kids) with
                | false => rfl
                | true =>
                  have h2 : wellsB kids = true := by
                    simp only [wellB, Bool.and_eq_true] at hb
                    exact hb.2
                  have := (wellsB_all kids).1 h2 k hlt
                  rw [HT'.out, hwb] at this
                  cases this
              clear hwb
              go_wp2_with (go_at_call 24; refine (IH.out (.mk op' n' ks') hts _ B _ HRV.out hBr (by omega)).mono ?_; rintro e w3 ⟨hk3, rfl⟩; rw [HWB.out])
              go_ret
              exact ⟨kwr.trans hk3 (fun _ _ f => f), ret_bool HE.out.symm⟩
            | true =>
              have HWB : Hid (wellB (.mk op' n' ks') = true) := hwb
              clear hwb
              go_wp2_with (go_at_call 24; refine (IH.out (.mk op' n' ks') hts _ B _ HRV.out hBr (by omega)).mono ?_; rintro e w3 ⟨hk3, rfl⟩; rw [HWB.out])
              go_roundw
              case rel => exact ⟨_, _, _, _, _, _, _, _, _, _, _, _, _, _, _, _, _, _, ⟨k + 1, by omega, by go_num, hkr.trans hk3 (fun _ _ f => f), fun j hj hjk => by
                rcases Nat.lt_succ_iff_lt_or_eq.1 hjk with h | rfl
                · exact HALL.out j hj h
                · rw [HT'.out]; exact HWB.out⟩, rfl⟩
              case measure => simp [intOf]; omega
          · have hlti : ¬ (k : Int) < (kids.length : Int) := by omega
            have HE : Hid (wellB (.mk op n kids) = true) := by
              rw [Hid]
              simp only [wellB, Bool.and_eq_true]
              exact ⟨HNB.out, (wellsB_all kids).2 (fun j hj => HALL.out j hj (by omega))⟩
            go_wp2
            go_ret
            exact ⟨kwr, ret_bool HE.out.symm⟩
end Go.Proofs.YtdbpdanocpfboaaDoor
