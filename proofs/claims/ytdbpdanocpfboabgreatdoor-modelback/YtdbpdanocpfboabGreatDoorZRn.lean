import Derived.Test.YtdbpdanocpfboabGreatDoorZBun03
/- The document's line. -/
namespace Go.Proofs.YtdbpdanocpfboabGreatDoor
open Go.RowKit

def gt : ByteArray := ⟨#[62]⟩
def nil : ByteArray := ⟨#[]⟩
def formB (ws : List ByteArray) : Bool := decide (4 ≤ ws.length) && (nameB (ws.getD 0 nil) && (decide (0 ≤ lettersZ (ws.getD 1 nil)) && (decide (ws.getD 2 nil = gt) && (ws.drop 3).all nameB)))
def memB (x : ByteArray) (l : List ByteArray) : Bool := l.any (fun y => decide (y = x))
theorem memB_iff {x : ByteArray} {l : List ByteArray} : memB x l = true ↔ x ∈ l := by
  simp [memB]
def twiceB (names ws : List ByteArray) : Bool := memB (ws.getD 0 nil) names || !decide ((ws.drop 3).Nodup)
/-- the error of a line of words, behind states of these names -/
def lineE (names ws : List ByteArray) : Int := if formB ws = false then 2 else if twiceB names ws = true then 5 else if names.length = 12 then 4 else 0

theorem findZ_pos {xs : List ByteArray} {n : ByteArray} : 0 ≤ findZ xs n ↔ n ∈ xs := by
  unfold findZ
  cases h : xs.findIdx? (fun x => decide (x = n)) with
  | none =>
    rw [List.findIdx?_eq_none_iff] at h
    simp only
    constructor
    · intro h'; omega
    · intro h'
      have := h n h'
      simp at this
  | some i =>
    obtain ⟨hi, h1, _⟩ := List.findIdx?_eq_some_iff_getElem.1 h
    simp only
    constructor
    · intro _
      have : xs[i] = n := by simpa using h1
      exact this ▸ List.getElem_mem hi
    · intro _; omega

theorem nodup_take_succ {α : Type} {l : List α} {k : Nat} (hk : k < l.length) : (l.take (k + 1)).Nodup ↔ (l.take k).Nodup ∧ l[k] ∉ l.take k := by
  rw [List.take_add_one, List.getElem?_eq_getElem hk]
  simp only [Option.toList_some]
  rw [List.nodup_append]
  constructor
  · rintro ⟨h1, _, h3⟩
    exact ⟨h1, fun h => h3 _ h _ (by simp) rfl⟩
  · rintro ⟨h1, h2⟩
    refine ⟨h1, by simp, fun a ha b hb => ?_⟩
    simp at hb
    subst hb
    exact fun e => h2 (e ▸ ha)
theorem nodup_take_false {α : Type} {l : List α} {k : Nat} (h : ¬ (l.take k).Nodup) : ¬ l.Nodup := fun h' => h (h'.sublist (List.take_sublist _ _))

theorem LsV.cap {B : Nat} {w : World} {a : Option Addr} {n cap : Nat} {xs : List Value} (h : LsV B w (.slice a n cap) xs) : xs.length ≤ cap := by
  obtain ⟨a', cap', e, h1, _⟩ := h
  cases e
  exact h1
theorem LsV.sub {B : Nat} {w : World} {b off n cap : Nat} {xs : List Value} (h : LsV B w (.slice (some ⟨b, off, none⟩) n cap) xs) {i j : Nat} (hij : i ≤ j) (hj : j ≤ xs.length) : LsV B w (.slice (some ⟨b, off + i, none⟩) (j - i) (cap - i)) ((xs.drop i).take (j - i)) := by
  have hc := h.cap
  obtain ⟨a', cap', e, h1, h2, h3⟩ := h
  cases e
  have hl : ((xs.drop i).take (j - i)).length = j - i := by simp; omega
  refine ⟨_, _, by rw [hl], by rw [hl]; omega, by rw [hl]; omega, fun k x hx => ?_⟩
  have hk : k < j - i := by rw [← hl]; exact (List.getElem?_eq_some_iff.1 hx).1
  rw [List.getElem?_take, if_pos hk, List.getElem?_drop] at hx
  obtain ⟨b', off', e, hb, hcell⟩ := h3 (i + k) x hx
  cases e
  exact ⟨b, off + i, rfl, hb, by rw [Nat.add_assoc]; exact hcell⟩
theorem StrsV.sub {B : Nat} {w : World} {b off n cap : Nat} {xs : List ByteArray} (h : StrsV B w (.slice (some ⟨b, off, none⟩) n cap) xs) {i j : Nat} (hij : i ≤ j) (hj : j ≤ xs.length) : StrsV B w (.slice (some ⟨b, off + i, none⟩) (j - i) (cap - i)) ((xs.drop i).take (j - i)) := by
  have := LsV.sub h hij (by simpa using hj)
  unfold StrsV
  rw [List.map_take, List.map_drop]
  exact this
theorem find32k (w : World) (B : Nat) (v : Value) (xs : List ByteArray) (n : ByteArray) (z : Int) (hz : findZ xs n = z) (hv : StrsV B w v xs) : Calls Tryz.prog 32 #[v, .string n] w fun e w' => Kept (fun _ => False) w w' ∧ e = .returned (.int .i64 z) :=
  (find32 w B v xs n hv).mono (by rintro e w' ⟨rfl, rfl⟩; exact ⟨Kept.refl _ _, ret_int hz⟩)

set_option maxRecDepth 100000 in
set_option maxHeartbeats 4000000 in
theorem line30 (w : World) (B : Nat) (nv lv tv wv : Value) (names ws : List ByteArray) (hn : StrsV B w nv names) (hw : StrsV B w wv ws) (hB : B ≤ w.heap.size) (hwl : ws.length ≤ 2000) (hws : ∀ x ∈ ws, x.size ≤ 1000) :
    Calls Tryz.prog 30 #[.agg #[nv, lv, tv], wv] w fun e w' => e = .returned (.int .i64 (lineE names ws)) ∧ Kept (fun _ => False) w w' := by
  obtain ⟨W0, hW0⟩ : ∃ W0, W0 = w.alloc (.cells #[nv, lv, tv] 30) := ⟨_, rfl⟩
  have k0 : Kept (fun _ => False) w W0 := by rw [hW0]; exact (Kept.refl _ _).alloc _
  have m0 : W0.cell? ⟨w.heap.size, 0, none⟩ = some nv := by rw [hW0]; simp
  obtain ⟨na, nc, rfl, hnl⟩ := hn.form
  obtain ⟨a, cap, rfl, _⟩ := hw.form
  have HN : Hid (StrsV B W0 (.slice na names.length nc) names) := hn.kept k0 hB
  have HWV : Hid (StrsV B W0 (.slice a ws.length cap) ws) := hw.kept k0 hB
  have hB0 : B ≤ W0.heap.size := Nat.le_trans hB k0.size
  have HK0 : Hid (Kept (fun _ => False) w W0) := k0
  clear hn hw k0
  by_cases h4 : ws.length < 4
  · have HE : Hid (lineE names ws = 2) := by
      have : formB ws = false := by simp [formB]; omega
      rw [Hid, lineE, if_pos this]
    have h4i : (ws.length : Int) < 4 := by omega
    go_enter Tryz.func30, Tryz.ntmps30
    go_wp2
    go_ret
    refine ⟨ret_int HE.out.symm, ?_⟩
    first | (rw [← hW0]; exact HK0.out) | exact HK0.out
  · have h4i : ¬ (ws.length : Int) < 4 := by omega
    have hL : 4 ≤ ws.length := by omega
    obtain ⟨b, off, rfl, hb, _⟩ := StrsV.cell HWV.out (i := 0) (by omega)
    have HC : Hid (∀ wr, Kept (fun _ => False) W0 wr → ∀ i (hi : i < ws.length), wr.cell? ⟨b, off + i, none⟩ = some (.string ws[i])) := by
      intro wr hk i hi
      obtain ⟨b', off', e, _, h⟩ := StrsV.cell (HWV.out.kept hk hB0) hi
      cases e
      exact h
    have HS : Hid (∀ i (hi : i < ws.length), (ws[i]).size ≤ 1000) := fun i hi => hws _ (List.getElem_mem hi)
    have g0 : ws.getD 0 nil = ws[0] := by simp [List.getD, show 0 < ws.length by omega]
    have g1 : ws.getD 1 nil = ws[1] := by simp [List.getD, show 1 < ws.length by omega]
    have g2 : ws.getD 2 nil = ws[2] := by simp [List.getD, show 2 < ws.length by omega]
    have HF : Hid (formB ws = (nameB ws[0] && (decide (0 ≤ lettersZ ws[1]) && (decide (ws[2] = gt) && (ws.drop 3).all nameB)))) := by rw [Hid, formB, g0, g1, g2]; simp [hL]
    have HT : Hid (twiceB names ws = (memB ws[0] names || !decide ((ws.drop 3).Nodup))) := by rw [Hid, twiceB, g0]
    have c0 : W0.cell? ⟨b, off, none⟩ = some (.string ws[0]) := HC.out W0 (Kept.refl _ _) 0 (by omega)
    have c1 : W0.cell? ⟨b, off + 1, none⟩ = some (.string ws[1]) := HC.out W0 (Kept.refl _ _) 1 (by omega)
    have hL0 : (0 : Int) < (ws.length : Int) := by omega
    have hL1 : (1 : Int) < (ws.length : Int) := by omega
    have hL2 : (2 : Int) < (ws.length : Int) := by omega
    have HFORM : Hid (formB ws = false → lineE names ws = 2) := fun h => by rw [lineE, if_pos h]
    clear g0 g1 g2 hws
    generalize hx0 : ws[0] = x0 at *
    generalize hx1 : ws[1] = x1 at *
    generalize hx2 : ws[2] = x2 at *
    have s0 : x0.size ≤ 1000 := by rw [← hx0]; exact HS.out 0 (by omega)
    have s1 : x1.size ≤ 1000 := by rw [← hx1]; exact HS.out 1 (by omega)
    go_enter Tryz.func30, Tryz.ntmps30
    go_upto_region 1 with fail
    rw [← hW0]
    clear hW0
    cases n0 : nameB x0 with
    | false =>
      have HE : Hid (lineE names ws = 2) := HFORM.out (by rw [HF.out, n0]; rfl)
      go_wp2_with (go_at_call 55; go_must (refine (isName55 _ x0 (by omega)).mono ?_); rintro e w1 ⟨rfl, hw1⟩; subst w1)
      go_ret
      exact ⟨ret_int HE.out.symm, HK0.out⟩
    | true =>
      by_cases l1 : lettersZ x1 < 0
      · have HE : Hid (lineE names ws = 2) := HFORM.out (by rw [HF.out, n0, decide_eq_false (by omega)]; rfl)
        go_wp2_with
          (first
            | (go_at_call 55; go_must (refine (isName55 _ x0 (by omega)).mono ?_); rintro e w1 ⟨rfl, hw1⟩; subst w1; rw [n0])
            | (go_at_call 31; go_must (refine (letters31 _ x1 (by omega)).mono ?_); rintro e w2 ⟨rfl, k2⟩))
        go_ret
        exact ⟨ret_int HE.out.symm, HK0.out.trans k2 (fun _ _ f => f)⟩
      · by_cases e2 : x2 = gt
        · have e2' : (x2.toList == [62]) = true := by
            have := beq_txt x2 gt
            rw [show gt.toList = [62] by rw [ByteArray.toList_eq]; rfl] at this
            rw [this]
            simpa using e2
          have HF2 : Hid (formB ws = (ws.drop 3).all nameB) := by rw [Hid, HF.out, n0, decide_eq_true e2, decide_eq_true (show ((0 : Nat) : Int) ≤ lettersZ x1 by omega)]; simp
          clear e2
          go_wp2_with
            (first
              | (go_at_call 55; go_must (refine (isName55 _ x0 (by omega)).mono ?_); rintro e w1 ⟨rfl, hw1⟩; subst w1; rw [n0])
              | (go_at_call 31; go_must (refine (letters31 _ x1 (by omega)).mono ?_); rintro e w2 ⟨rfl, k2⟩; have c2 : w2.cell? ⟨b, off + 2, none⟩ = some (.string x2) := hx2 ▸ HC.out w2 k2 2 (by omega)))
          clear c2
          go_loopw [5] (fun i wr => ∃ k : Nat, 3 ≤ k ∧ k ≤ ws.length ∧ i = .int .i64 k ∧ (∀ j (h : j < ws.length), 3 ≤ j → j < k → nameB ws[j] = true) ∧ Kept (fun _ => False) W0 wr) (fun i _ => ws.length - (intOf i).toNat)
          case atStart => exact ⟨3, by omega, by omega, rfl, fun j _ _ _ => by omega, k2⟩
          case round =>
            obtain ⟨k, hk3, hkl, rfl, hall, hkr⟩ := hrel
            have HA : Hid (∀ j (h : j < ws.length), 3 ≤ j → j < k → nameB ws[j] = true) := hall
            clear hall
            by_cases hlt : k < ws.length
            · have hki : (k : Int) < (ws.length : Int) := by omega
              have hck := HC.out wr hkr k hlt
              have hsk := HS.out k hlt
              cases hnk : nameB ws[k] with
              | false =>
                have HE : Hid (lineE names ws = 2) := HFORM.out (by
                  rw [HF2.out, List.all_eq_false]
                  refine ⟨ws[k], ?_, by simp [hnk]⟩
                  rw [List.mem_iff_getElem]
                  exact ⟨k - 3, by simp; omega, by simp [show 3 + (k - 3) = k by omega]⟩)
                go_wp2_with (go_at_call 55; go_must (refine (isName55 _ ws[k] (by omega)).mono ?_); rintro e w1 ⟨rfl, hw1⟩; subst w1; rw [hnk])
                go_ret
                exact ⟨ret_int HE.out.symm, HK0.out.trans hkr (fun _ _ f => f)⟩
              | true =>
                go_wp2_with (go_at_call 55; go_must (refine (isName55 _ ws[k] (by omega)).mono ?_); rintro e w1 ⟨rfl, hw1⟩; subst w1; rw [hnk])
                go_roundw
                case rel =>
                  refine ⟨k + 1, by omega, by omega, by simp, fun j h h1 h2 => ?_, hkr⟩
                  by_cases e : j = k
                  · subst e; exact hnk
                  · exact HA.out j h h1 (by omega)
                case measure => simp [intOf]; omega
            · obtain rfl : k = ws.length := by omega
              have HF3 : Hid (formB ws = true) := by
                rw [Hid, HF2.out, List.all_eq_true]
                intro x hx
                obtain ⟨j, hj, rfl⟩ := List.mem_iff_getElem.1 hx
                simp at hj ⊢
                exact HA.out (3 + j) (by omega) (by omega) (by omega)
              have m1 : wr.cell? ⟨w.heap.size, 0, none⟩ = some (.slice na names.length nc) := (hkr.cell (p := ⟨w.heap.size, 0, none⟩) (lt_of_cell m0) (fun f => f)).trans m0
              have d0 : wr.cell? ⟨b, off, none⟩ = some (.string x0) := hx0 ▸ HC.out wr hkr 0 (by omega)
              have HNr : Hid (StrsV B wr (.slice na names.length nc) names) := HN.out.kept hkr hB0
              have HREST : Hid (lineE names ws = if twiceB names ws = true then 5 else if names.length = 12 then 4 else 0) := by rw [Hid, lineE, if_neg (by rw [HF3.out]; simp)]
              go_upto_region 9 with fail
              obtain ⟨z, hz⟩ : ∃ z, findZ names x0 = z := ⟨_, rfl⟩
              have z0 : (0 : Int) < (ws.length : Int) := by omega
              have z1 : 0 < ws.length := by omega
              have U0 : ∀ U : KW wr, U.1.cell? ⟨w.heap.size, 0, none⟩ = some (.slice na names.length nc) := fun U => U.cell m1
              have U1 : ∀ U : KW wr, U.1.cell? ⟨b, off, none⟩ = some (.string x0) := fun U => U.cell d0
              refine wp_region_quiet_kept (by kernel_rfl) (by kernel_rfl) ?_
              repeat (refine wpQuiet_step (fun K hK => ?_); go_simp; first | (refine hK _ ?_; clear hK K) | (apply Exists.intro; refine ⟨fun U => ?_, hK _ ?_⟩; (go_at_call 32; exact Calls.quiet_kept (find32k _ B _ names x0 z hz (HNr.out.kept U.2 (Nat.le_trans hB0 hkr.size)))); clear hK K))
              refine wpQuiet_nil ?_
              intro w3 hw'
              have k3 : Kept (fun _ => False) wr w3 := by
                obtain ⟨U, rfl⟩ := hw'
                exact U.2
              have hkr3 := hkr.trans k3 (fun _ _ f => f)
              clear hw' U0 U1 m1 d0 HNr hkr k3
              by_cases hm : x0 ∈ names
              · have hge : 0 ≤ z := hz ▸ findZ_pos.2 hm
                have HE : Hid (lineE names ws = 5) := by rw [Hid, HREST.out, HT.out, memB_iff.2 hm]; rfl
                go_wp2
                go_ret
                exact ⟨ret_int HE.out.symm, HK0.out.trans hkr3 (fun _ _ f => f)⟩
              · have hge : ¬ 0 ≤ z := fun h => hm (findZ_pos.1 (hz ▸ h))
                have HT2 : Hid (twiceB names ws = !decide ((ws.drop 3).Nodup)) := by
                  have : memB x0 names = false := by
                    cases hb : memB x0 names with
                    | false => rfl
                    | true => exact absurd (memB_iff.1 hb) hm
                  rw [Hid, HT.out, this]; rfl
                clear hm
                go_wp2
                go_loopw [7] (fun i wr => ∃ k : Nat, 3 ≤ k ∧ k ≤ ws.length ∧ i = .int .i64 k ∧ ((ws.drop 3).take (k - 3)).Nodup ∧ Kept (fun _ => False) W0 wr) (fun i _ => ws.length - (intOf i).toNat)
                case atStart => exact ⟨3, by omega, by omega, rfl, by simp, hkr3⟩
                case round =>
                  obtain ⟨k, hk3, hkl, rfl, hnd, hkr⟩ := hrel
                  have HND : Hid (((ws.drop 3).take (k - 3)).Nodup) := hnd
                  clear hnd
                  by_cases hlt : k < ws.length
                  · have hki : (k : Int) < (ws.length : Int) := by omega
                    have hki3 : (3 : Int) ≤ (k : Int) := by omega
                    have hkc : (k : Int) ≤ (cap : Int) := by have := LsV.cap HWV.out; simp at this; omega
                    have hc3 : ¬ cap = 3 := by have := LsV.cap HWV.out; simp at this; omega
                    have hck := HC.out wr hkr k hlt
                    go_upto_region 14 with fail
                    obtain ⟨z, hz⟩ : ∃ z, findZ ((ws.drop 3).take (k - 3)) ws[k] = z := ⟨_, rfl⟩
                    have U1 : ∀ U : KW wr, U.1.cell? ⟨b, off + k, none⟩ = some (.string ws[k]) := fun U => U.cell hck
                    refine wp_region_quiet_kept (by kernel_rfl) (by kernel_rfl) ?_
                    repeat (refine wpQuiet_step (fun K hK => ?_); go_simp; first | (refine hK _ ?_; clear hK K) | (apply Exists.intro; refine ⟨fun U => ?_, hK _ ?_⟩; (go_at_call 32; exact Calls.quiet_kept (find32k _ B _ ((ws.drop 3).take (k - 3)) ws[k] z hz (StrsV.sub (HWV.out.kept (hkr.trans U.2 (fun _ _ f => f)) hB0) hk3 hkl))); clear hK K))
                    refine wpQuiet_nil ?_
                    intro w5 hw'
                    have k5 : Kept (fun _ => False) wr w5 := by
                      obtain ⟨U, rfl⟩ := hw'
                      exact U.2
                    have hkr5 := hkr.trans k5 (fun _ _ f => f)
                    clear hw' U1 hck hkr k5
                    have HX : Hid ((ws.drop 3).length = ws.length - 3) := by rw [Hid, List.length_drop]
                    have HG : Hid ((ws.drop 3)[k - 3]? = some ws[k]) := by rw [Hid, List.getElem?_drop, show 3 + (k - 3) = k by omega, List.getElem?_eq_getElem hlt]
                    have HSUC : Hid (((ws.drop 3).take (k + 1 - 3)).Nodup ↔ ((ws.drop 3).take (k - 3)).Nodup ∧ ws[k] ∉ (ws.drop 3).take (k - 3)) := by
                      have hh : k - 3 < (ws.drop 3).length := by rw [HX.out]; omega
                      have he : (ws.drop 3)[k - 3] = ws[k] := by
                        have := HG.out
                        rw [List.getElem?_eq_getElem hh] at this
                        exact Option.some.inj this
                      rw [Hid, show k + 1 - 3 = k - 3 + 1 by omega, nodup_take_succ hh, he]
                    by_cases hm : ws[k] ∈ (ws.drop 3).take (k - 3)
                    · have hge : 0 ≤ z := hz ▸ findZ_pos.2 hm
                      have HE : Hid (lineE names ws = 5) := by
                        have hn : ¬ (ws.drop 3).Nodup := nodup_take_false (k := k + 1 - 3) (fun h => (HSUC.out.1 h).2 hm)
                        rw [Hid, HREST.out, HT2.out, decide_eq_false hn]; rfl
                      clear hm
                      go_wp2
                      go_ret
                      exact ⟨ret_int HE.out.symm, HK0.out.trans hkr5 (fun _ _ f => f)⟩
                    · have hge : ¬ 0 ≤ z := fun h => hm (findZ_pos.1 (hz ▸ h))
                      have HND2 : Hid (((ws.drop 3).take (k + 1 - 3)).Nodup) := HSUC.out.2 ⟨HND.out, hm⟩
                      clear hm
                      go_wp2
                      go_roundw
                      case rel => exact ⟨k + 1, by omega, by omega, by simp, HND2.out, hkr5⟩
                      case measure => simp [intOf]; omega
                  · obtain rfl : k = ws.length := by omega
                    have HT3 : Hid (twiceB names ws = false) := by
                      have hn : (ws.drop 3).Nodup := by
                        have := HND.out
                        rw [show ws.length - 3 = (ws.drop 3).length by simp, List.take_length] at this
                        exact this
                      rw [Hid, HT2.out, decide_eq_true hn]; rfl
                    have HR2 : Hid (lineE names ws = if names.length = 12 then 4 else 0) := by rw [Hid, HREST.out, if_neg (by rw [HT3.out]; simp)]
                    have m1 : wr.cell? ⟨w.heap.size, 0, none⟩ = some (.slice na names.length nc) := (hkr.cell (p := ⟨w.heap.size, 0, none⟩) (lt_of_cell m0) (fun f => f)).trans m0
                    by_cases h12 : names.length = 12
                    · have h12b : ((names.length : Int) == 12) = true := by simp; omega
                      have HE : Hid (lineE names ws = 4) := by rw [Hid, HR2.out, if_pos h12]
                      clear h12
                      go_wp2
                      go_ret
                      exact ⟨ret_int HE.out.symm, HK0.out.trans hkr (fun _ _ f => f)⟩
                    · have h12b : ((names.length : Int) == 12) = false := by simp; omega
                      have HE : Hid (lineE names ws = 0) := by rw [Hid, HR2.out, if_neg h12]
                      go_wp2
                      go_ret
                      exact ⟨ret_int HE.out.symm, HK0.out.trans hkr (fun _ _ f => f)⟩
        · have HE : Hid (lineE names ws = 2) := HFORM.out (by rw [HF.out, n0, decide_eq_false e2]; simp)
          have e2' : (x2.toList == [62]) = false := by
            have := beq_txt x2 gt
            rw [show gt.toList = [62] by rw [ByteArray.toList_eq]; rfl] at this
            rw [this]
            simpa using e2
          go_wp2_with
            (first
              | (go_at_call 55; go_must (refine (isName55 _ x0 (by omega)).mono ?_); rintro e w1 ⟨rfl, hw1⟩; subst w1; rw [n0])
              | (go_at_call 31; go_must (refine (letters31 _ x1 (by omega)).mono ?_); rintro e w2 ⟨rfl, k2⟩; have c2 : w2.cell? ⟨b, off + 2, none⟩ = some (.string x2) := hx2 ▸ HC.out w2 k2 2 (by omega)))
          go_ret
          exact ⟨ret_int HE.out.symm, HK0.out.trans k2 (fun _ _ f => f)⟩
end Go.Proofs.YtdbpdanocpfboabGreatDoor
