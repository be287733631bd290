/- Walks of package word: period. -/
import Derived.Test.YtdbpdanocpfboaaDoorVPer
namespace Go.Proofs.YtdbpdanocpfboaaDoor
open Go.RowKit

/-- n numbers at the beginning are those that end with i, too -/
def Bord (l : List Int) (i n : Nat) : Prop := n ≤ i ∧ ∀ t, t < n → l.getD t 0 = l.getD (i + 1 - n + t) 0
def MaxB (l : List Int) (i n : Nat) : Prop := Bord l i n ∧ ∀ m, Bord l i m → m ≤ n
theorem bord_zero (l : List Int) (i : Nat) : Bord l i 0 := ⟨Nat.zero_le _, fun t h => absurd h (by omega)⟩
theorem bord_up {l : List Int} {i m : Nat} (h : Bord l i m) (e : l.getD (i + 1) 0 = l.getD m 0) : Bord l (i + 1) (m + 1) := by
  obtain ⟨h1, h2⟩ := h
  refine ⟨by omega, fun t ht => ?_⟩
  by_cases htm : t < m
  · rw [h2 t htm]; congr 1; omega
  · have : t = m := by omega
    subst this
    rw [← e]; congr 1; omega
theorem bord_down {l : List Int} {i m : Nat} (h : Bord l (i + 1) (m + 1)) : Bord l i m ∧ l.getD (i + 1) 0 = l.getD m 0 := by
  obtain ⟨h1, h2⟩ := h
  refine ⟨⟨by omega, fun t ht => ?_⟩, ?_⟩
  · rw [h2 t (by omega)]; congr 1; omega
  · rw [h2 m (by omega)]; congr 1; omega
theorem bord_trans {l : List Int} {i n m : Nat} (h : Bord l i (n + 1)) (h' : Bord l n m) : Bord l i m := by
  obtain ⟨h1, h2⟩ := h
  obtain ⟨h3, h4⟩ := h'
  refine ⟨by omega, fun t ht => ?_⟩
  rw [h4 t ht, h2 (n + 1 - m + t) (by omega)]
  congr 1
  omega
theorem bord_in {l : List Int} {i n m : Nat} (h : Bord l i (n + 1)) (h' : Bord l i m) (hm : m < n + 1) : Bord l n m := by
  obtain ⟨h1, h2⟩ := h
  obtain ⟨h3, h4⟩ := h'
  refine ⟨by omega, fun t ht => ?_⟩
  rw [h4 t ht, h2 (n + 1 - m + t) (by omega)]
  congr 1
  omega
/-- while same[i+1] is looked for -/
def Look (l : List Int) (i n : Nat) : Prop := Bord l i n ∧ ∀ m, Bord l i m → l.getD (i + 1) 0 = l.getD m 0 → m ≤ n
theorem look_start {l : List Int} {i n : Nat} (h : MaxB l i n) : Look l i n := ⟨h.1, fun m hm _ => h.2 m hm⟩
theorem look_step {l : List Int} {i n n' : Nat} (h : Look l i (n + 1)) (hne : l.getD (i + 1) 0 ≠ l.getD (n + 1) 0) (h' : MaxB l n n') : Look l i n' :=
  ⟨bord_trans h.1 h'.1, fun m hm he => by
    have h1 := h.2 m hm he
    have h2 : m ≠ n + 1 := fun e => hne (by rw [← e]; exact he)
    exact h'.2 m (bord_in h.1 hm (by omega))⟩
theorem look_hit {l : List Int} {i n : Nat} (h : Look l i n) (he : l.getD (i + 1) 0 = l.getD n 0) : MaxB l (i + 1) (n + 1) :=
  ⟨bord_up h.1 he, fun m hm => by
    cases m with
    | zero => omega
    | succ m => have := bord_down hm; have := h.2 m this.1 this.2; omega⟩
theorem look_miss {l : List Int} {i : Nat} (h : Look l i 0) (he : l.getD (i + 1) 0 ≠ l.getD 0 0) : MaxB l (i + 1) 0 :=
  ⟨bord_zero _ _, fun m hm => by
    cases m with
    | zero => omega
    | succ m =>
      have h1 := bord_down hm
      have h2 := h.2 m h1.1 h1.2
      have : m = 0 := by omega
      subst this
      exact absurd h1.2 he⟩
theorem maxB_zero (l : List Int) : MaxB l 0 0 := ⟨bord_zero _ _, fun _ hm => hm.1⟩
theorem maxB_end {l : List Int} {n : Nat} (hl : 0 < l.length) (h : MaxB l (l.length - 1) n) : n < l.length ∧ LPer l (if l.length % (l.length - n) ≠ 0 then l.length else l.length - n) := by
  have hn := h.1.1
  refine ⟨by omega, shift_LPer (by omega) (by omega) (fun i hi hi' => ?_) (fun q hq hql hqp => ?_)⟩
  · have := h.1.2 (i - (l.length - n)) (by omega)
    rw [this]
    congr 1
    omega
  · have := h.2 (l.length - q) ⟨by omega, fun t ht => by
      rw [hqp (l.length - 1 + 1 - (l.length - q) + t) (by omega) (by omega)]
      congr 1
      omega⟩
    omega

theorem CRow.drew {w0 w : World} {b n : Nat} {f : Nat → Int} (h : CRow w0 w b n f) : CRow w0 w.drew b n f := ⟨h.1.drew, h.2⟩

set_option maxHeartbeats 1000000 in
theorem period68 (w : World) (B : Nat) (v : Value) (l : List Int) (h : IntsV B w v l) (hB : B ≤ w.heap.size) (hl : 0 < l.length) (hl2 : l.length ≤ 20000) :
    Calls Tryd.prog 68 #[v] w fun e w' => Kept (fun _ => False) w w' ∧ ∃ P : Nat, e = .returned (.int .i64 (P : Int)) ∧ LPer l P := by
  obtain ⟨i0, hi, hz0, hz1, hz2⟩ := info_parts infoI
  have hmk : ∀ u : World, (Instr.makeSlice 46 (.int .i64 (l.length : Int)) (.int .i64 (l.length : Int))).run Tryd.prog u = .ok (.slice (some ⟨u.heap.size, 0, none⟩) l.length l.length) (u.alloc (.cells (madeCells #[.int .i64 0] l.length) 3)) := fun u => by
    have hh := run_make (P := Tryd.prog) u 46 3 i0 (.int .i64 0) Tryd.underlying46 hi hz0 .i64 .i64 (l.length : Int) (l.length : Int) (by omega) (Int.le_refl _) (by rw [hz2]; omega) (by omega)
    simpa [hz1, Value.cells] using hh
  rcases h.cases with ⟨rfl, _⟩ | ⟨_, b, off, cap, rfl, hcap, hcap2, hbB, hcell⟩
  · simp at hl
  have HC : Hid (∀ (wr : World), Kept (fun _ => False) w wr → ∀ i, i < l.length → wr.cell? ⟨b, off + i, none⟩ = some (.int .i64 (l.getD i 0))) := fun wr hk i hi => by
    rw [hk.cell (p := ⟨b, off + i, none⟩) (Nat.lt_of_lt_of_le hbB hB) (fun f => f), hcell i hi, List.getD_eq_getElem?_getD, List.getElem?_eq_getElem hi]
    rfl
  clear hcell h hi hz0 hz1 hz2
  go_enter Tryd.func68, Tryd.ntmps68
  go_wp2
  go_loopw [4, 5] (fun v4 _ wr => ∃ (i : Nat) (F : Nat → Nat), i < l.length ∧ v4 = .int .i64 ((i + 1 : Nat) : Int) ∧ CRow w wr w.heap.size l.length (fun k => (F k : Int)) ∧ ∀ k, k ≤ i → MaxB l k (F k)) (fun v4 _ _ => l.length - (intOf v4).toNat)
  case atStart => exact ⟨0, fun _ => 0, hl, rfl, (CRow.start w l.length).congr (fun i hi => by simp [occ]), fun k hk => by rw [Nat.le_zero.1 hk]; exact maxB_zero l⟩
  case round =>
    obtain ⟨i, F, hil, rfl, hcr, hF⟩ := hrel
    clear hmk
    by_cases hlt : i + 1 < l.length
    · have hlti : ((i + 1 : Nat) : Int) < (l.length : Int) := by omega
      have e1 : (((i + 1 : Nat) : Int) - 1) = (i : Int) := by omega
      have hci := (hcr.2.2 i hil).1
      have HL : Hid (Look l i (F i)) := look_start (hF i (Nat.le_refl _))
      have HF : Hid (∀ k, k ≤ i → MaxB l k (F k)) := hF
      have HCR : Hid (CRow w wr w.heap.size l.length (fun k => (F k : Int))) := hcr
      clear hcr hF
      go_wp2
      go_loopw [5] (fun v5 wq => ∃ n : Nat, v5 = .int .i64 (n : Int) ∧ Look l i n ∧ CRow w wq w.heap.size l.length (fun k => (F k : Int))) (fun v5 _ => (intOf v5).toNat)
      case atStart => exact ⟨F i, rfl, HL.out, HCR.out⟩
      case round =>
        obtain ⟨n, rfl, hlook, hcr⟩ := hrel
        have hn := hlook.1.1
        have cI := HC.out _ hcr.1 (i + 1) hlt
        have cN := HC.out _ hcr.1 n (by omega)
        have HLK : Hid (Look l i n) := hlook
        have hnl : (n : Int) < (l.length : Int) := by omega
        by_cases he : l.getD (i + 1) 0 = l.getD n 0
        · have HHit : Hid (MaxB l (i + 1) (n + 1)) := look_hit hlook he
          obtain ⟨hcS, hfS⟩ := hcr.2.2 (i + 1) hlt
          have HCR2 : Hid _ := hcr
          rw [he] at cI
          generalize l.getD n 0 = y at *
          clear he hlook hcr
          by_cases hz : n = 0
          · subst hz
            rw [Nat.add_zero] at cN
            have hlt2 : (i : Int) + 1 < (l.length : Int) := by omega
            go_wp2
            go_region
            go_wp2
            go_region
            go_wp2
            go_roundw
            case rel => exact ⟨i + 1, fun k => if k = i + 1 then 0 + 1 else F k, hlt, by go_num, CRow.put (CRow.drew (CRow.drew HCR2.out)) hlt (fun k hk => by by_cases e : k = i + 1 <;> simp [e]), fun k hk => by
              by_cases e : k = i + 1
              · simp only [e, if_true]; exact HHit.out
              · simp only [e, if_false]; exact HF.out k (by omega)⟩
            case measure => simp [intOf]; omega
          · have hpos : (0 : Int) < (n : Int) := by omega
            have hposn : 0 < n := by omega
            have hlt2 : (i : Int) + 1 < (l.length : Int) := by omega
            go_wp2
            go_region
            go_wp2
            go_region
            go_wp2
            go_roundw
            case rel => exact ⟨i + 1, fun k => if k = i + 1 then n + 1 else F k, hlt, by go_num, CRow.put (CRow.drew (CRow.drew HCR2.out)) hlt (fun k hk => by by_cases e : k = i + 1 <;> simp [e]), fun k hk => by
              by_cases e : k = i + 1
              · simp only [e, if_true]; exact HHit.out
              · simp only [e, if_false]; exact HF.out k (by omega)⟩
            case measure => simp [intOf]; omega
        · have heb : (l.getD (i + 1) 0 == l.getD n 0) = false := by simpa using he
          have hnb : (l.getD (i + 1) 0 != l.getD n 0) = true := by simpa using he
          obtain ⟨hcS, hfS⟩ := hcr.2.2 (i + 1) hlt
          have HCR2 : Hid (CRow w wr w.heap.size l.length (fun k => (F k : Int))) := hcr
          have hlt2 : (i : Int) + 1 < (l.length : Int) := by omega
          by_cases hz : n = 0
          · subst hz
            have HMiss : Hid (MaxB l (i + 1) 0) := look_miss hlook he
            rw [Nat.add_zero] at cN
            generalize l.getD (i + 1) 0 = x at *
            generalize l.getD 0 0 = y at *
            clear hlook hcr
            go_wp2
            go_region
            go_wp2
            go_region
            go_wp2
            go_roundw
            case rel => exact ⟨i + 1, fun k => if k = i + 1 then 0 else F k, hlt, by go_num, CRow.put (CRow.drew (CRow.drew HCR2.out)) hlt (fun k hk => by by_cases e : k = i + 1 <;> simp [e]), fun k hk => by
              by_cases e : k = i + 1
              · simp only [e, if_true]; exact HMiss.out
              · simp only [e, if_false]; exact HF.out k (by omega)⟩
            case measure => simp [intOf]; omega
          · obtain ⟨n', rfl⟩ : ∃ n', n = n' + 1 := ⟨n - 1, by omega⟩
            have hmb := HF.out n' (by omega)
            have HStep : Hid (Look l i (F n')) := look_step hlook he hmb
            have hle : F n' ≤ n' := hmb.1.1
            have hcn := (hcr.2.2 n' (by omega)).1
            have e2 : (((n' + 1 : Nat) : Int) - 1) = (n' : Int) := by omega
            have hpos : (0 : Int) < ((n' + 1 : Nat) : Int) := by omega
            have hnl2 : (n' : Int) < (l.length : Int) := by omega
            have hnl3 : (n' : Int) + 1 < (l.length : Int) := by omega
            generalize l.getD (i + 1) 0 = x at *
            generalize l.getD (n' + 1) 0 = y at *
            clear hlook hcr
            go_wp2
            go_region
            go_wp2
            go_roundw
            case rel => exact ⟨F n', by go_num, HStep.out, CRow.drew HCR2.out⟩
            case measure => simp [intOf]; omega
    · have hlen : l.length = i + 1 := by omega
      have hc1 : wr.cell? ⟨w.heap.size, i, none⟩ = some (.int .i64 (F i : Int)) := (hcr.2.2 i hil).1
      have hmb := hF i (Nat.le_refl _)
      have hend := maxB_end hl (by rw [hlen]; exact hmb)
      have HK : Hid _ := hcr.1
      have e1 : ((l.length : Int) - 1) = (i : Int) := by omega
      have hili : (i : Int) < (l.length : Int) := by omega
      have HLEN : Hid _ := hlen
      clear hlen hF hmb hcr
      have hlti : ¬ (i : Int) + 1 < (l.length : Int) := by omega
      obtain ⟨n, hFn⟩ : ∃ n, n = F i := ⟨_, rfl⟩
      rw [← hFn] at hc1 hend
      clear hFn
      have hsub : ((l.length : Int) - (n : Int)) = ((l.length - n : Nat) : Int) := by omega
      have hnz : ¬ ((l.length - n : Nat) : Int) = 0 := by omega
      have hnz2 : ¬ (l.length - n : Nat) = 0 := by omega
      have hmod : (l.length : Int).tmod ((l.length - n : Nat) : Int) = ((l.length % (l.length - n) : Nat) : Int) := by
        rw [Int.tmod_eq_emod_of_nonneg (by omega)]
        rfl
      by_cases hm : l.length % (l.length - n) = 0
      · rw [hm] at hmod
        have HE : Hid (LPer l (l.length - n)) := by
          have := hend.2
          rwa [if_neg (by omega)] at this
        have HM : Hid _ := hm
        clear hend hm
        generalize hq : l.length - n = q at *
        have HQ : Hid _ := hq
        clear hq
        go_wp2
        go_ret
        exact ⟨HK.out, _, rfl, HE.out⟩
      · have HE : Hid (LPer l l.length) := by
          have := hend.2
          rwa [if_pos (by omega)] at this
        clear hend
        generalize hq : l.length - n = q at *
        have HQ : Hid _ := hq
        clear hq
        go_wp2
        go_ret
        exact ⟨HK.out, _, rfl, HE.out⟩
end Go.Proofs.YtdbpdanocpfboaaDoor
