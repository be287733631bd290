import Derived.Test.YtjcpmoefkanjgaaDoorHolds
import Derived.Lib.AppendZerosOnto
import Derived.Lib.Walk
import Derived.Lib.SliceRun
/- Periods of lists and of what comes again for ever. -/
namespace Go.Proofs.YtjcpmoefkanjgaaDoor
open Go.RowKit

/-- a row without an end comes again after p, from h on -/
def PerI (x : Nat → Int) (h p : Nat) : Prop := ∀ i, h ≤ i → x (i + p) = x i
theorem PerI.mul {x : Nat → Int} {h p : Nat} (hp : PerI x h p) (k : Nat) : PerI x h (p * k) := by
  induction k with
  | zero => intro i _; simp
  | succ k ih =>
    intro i hi
    rw [Nat.mul_succ, ← Nat.add_assoc, hp (i + p * k) (by omega)]
    exact ih i hi
theorem PerI.mod {x : Nat → Int} {h a b : Nat} (ha : PerI x h a) (hb : PerI x h b) : PerI x h (b % a) := by
  intro i hi
  have h1 := ha.mul (b / a) (i + b % a) (by omega)
  have h2 := hb i hi
  have e : i + b % a + a * (b / a) = i + b := by have := Nat.mod_add_div b a; omega
  rw [e] at h1
  rw [← h1, h2]
theorem PerI.gcd {x : Nat → Int} {h : Nat} : ∀ (a b : Nat), PerI x h a → PerI x h b → PerI x h (Nat.gcd a b) := by
  intro a
  induction a using Nat.strongRecOn with
  | _ a ih =>
    intro b ha hb
    by_cases h0 : a = 0
    · subst h0; simpa using hb
    · rw [Nat.gcd_rec]
      exact ih (b % a) (Nat.mod_lt _ (by omega)) a (ha.mod hb) ha

/-- a list comes again after p -/
def IsPer (l : List Int) (p : Nat) : Prop := ∀ i, p ≤ i → i < l.length → l.getD i 0 = l.getD (i - p) 0
/-- a list, again and again -/
def cyc (l : List Int) (i : Nat) : Int := l.getD (i % l.length) 0
theorem cyc_len (l : List Int) : PerI (cyc l) 0 l.length := by
  intro i _
  simp [cyc]
theorem IsPer.mul {l : List Int} {p : Nat} (h : IsPer l p) : ∀ (k i : Nat), i + p * k < l.length → l.getD (i + p * k) 0 = l.getD i 0
  | 0, i, _ => by simp
  | k + 1, i, hi => by
    rw [Nat.mul_succ] at hi
    rw [Nat.mul_succ, ← Nat.add_assoc, h (i + p * k + p) (by omega) (by omega), Nat.add_sub_cancel]
    exact IsPer.mul h k i (by omega)
/-- what comes again all the way does so for ever -/
theorem IsPer.cyc {l : List Int} {p : Nat} (h : IsPer l p) (hd : p ∣ l.length) : PerI (cyc l) 0 p := by
  obtain ⟨k, hk⟩ := hd
  intro i _
  by_cases hl : l.length = 0
  · have : l = [] := List.eq_nil_of_length_eq_zero hl
    subst this
    simp [Go.Proofs.YtjcpmoefkanjgaaDoor.cyc]
  · have hm := Nat.mod_lt i (show 0 < l.length by omega)
    have key : ∀ r, r < l.length → l.getD ((r + p) % l.length) 0 = l.getD r 0 := by
      intro r hr
      by_cases hrp : r + p < l.length
      · rw [Nat.mod_eq_of_lt hrp, h (r + p) (by omega) hrp, Nat.add_sub_cancel]
      · have hpl : p ≤ l.length := by
          cases k with
          | zero => rw [Nat.mul_zero] at hk; omega
          | succ k => rw [Nat.mul_succ] at hk; omega
        have e1 : (r + p) % l.length = r + p - l.length := by
          rw [Nat.mod_eq_sub_mod (by omega), Nat.mod_eq_of_lt (by omega)]
        rw [e1]
        cases k with
        | zero => rw [Nat.mul_zero] at hk; omega
        | succ k =>
          have e2 : r + p - l.length + p * k = r := by rw [Nat.mul_succ] at hk; omega
          have := IsPer.mul h k (r + p - l.length) (by omega)
          rw [e2] at this
          exact this.symm
    have := key (i % l.length) hm
    rw [Nat.mod_add_mod] at this
    exact this
theorem PerI.list {l : List Int} {p : Nat} (h : PerI (cyc l) 0 p) : IsPer l p := by
  intro i hp hi
  have := h (i - p) (by omega)
  rw [Nat.sub_add_cancel hp] at this
  simp only [cyc] at this
  rwa [Nat.mod_eq_of_lt hi, Nat.mod_eq_of_lt (by omega)] at this

/-- P is the shortest with which the list comes again all the way -/
def LPer (l : List Int) (P : Nat) : Prop := 1 ≤ P ∧ P ∣ l.length ∧ IsPer l P ∧ ∀ q, 1 ≤ q → q ∣ l.length → IsPer l q → P ≤ q
theorem LPer.inj {l : List Int} {P Q : Nat} (h : LPer l P) (h' : LPer l Q) : P = Q :=
  Nat.le_antisymm (h.2.2.2 Q h'.1 h'.2.1 h'.2.2.1) (h'.2.2.2 P h.1 h.2.1 h.2.2.1)

/-- from the shortest shift to the shortest that goes in -/
theorem shift_LPer {l : List Int} {s : Nat} (h1 : 1 ≤ s) (h2 : s ≤ l.length) (h3 : IsPer l s) (h4 : ∀ q, 1 ≤ q → q ≤ l.length → IsPer l q → s ≤ q) : LPer l (if l.length % s ≠ 0 then l.length else s) := by
  have hfull : IsPer l l.length := fun i hi hi' => absurd hi' (by omega)
  have main : ∀ q, 1 ≤ q → q ∣ l.length → IsPer l q → q < l.length → l.length % s = 0 := by
    intro q hq hqd hqp hql
    have hsq := h4 q hq (by omega) hqp
    have h2q : 2 * q ≤ l.length := by
      obtain ⟨k, hk⟩ := hqd
      match k, hk with
      | 0, hk => rw [Nat.mul_zero] at hk; omega
      | 1, hk => rw [Nat.mul_one] at hk; omega
      | k + 2, hk => rw [Nat.mul_add] at hk; omega
    have hqc := hqp.cyc hqd
    have hsc : PerI (cyc l) 0 s := by
      intro i _
      have e : i = i % q + q * (i / q) := (Nat.mod_add_div i q).symm
      have hr := Nat.mod_lt i (show 0 < q by omega)
      have a1 := hqc.mul (i / q) (i % q) (by omega)
      have a2 := hqc.mul (i / q) (i % q + s) (by omega)
      have e2 : i + s = i % q + s + q * (i / q) := by omega
      rw [e2, a2]
      have a3 : cyc l i = cyc l (i % q) := by rw [← a1, ← e]
      rw [a3]
      simp only [cyc]
      rw [Nat.mod_eq_of_lt (show i % q + s < l.length by omega), Nat.mod_eq_of_lt (show i % q < l.length by omega), h3 (i % q + s) (by omega) (by omega), Nat.add_sub_cancel]
    have hg := (hsc.gcd s l.length (cyc_len l)).list
    have hgp : 0 < Nat.gcd s l.length := Nat.gcd_pos_of_pos_left _ h1
    have hgl : Nat.gcd s l.length ≤ s := Nat.gcd_le_left _ h1
    have := h4 _ hgp (by omega) hg
    have e : Nat.gcd s l.length = s := by omega
    have hd := Nat.gcd_dvd_right s l.length
    rw [e] at hd
    exact Nat.mod_eq_zero_of_dvd hd
  split
  · rename_i hne
    refine ⟨by omega, Nat.dvd_refl _, hfull, fun q hq hqd hqp => ?_⟩
    by_cases hql : q < l.length
    · exact absurd (main q hq hqd hqp hql) hne
    · omega
  · rename_i hne
    have hz : l.length % s = 0 := by omega
    refine ⟨h1, Nat.dvd_of_mod_eq_zero hz, h3, fun q hq hqd hqp => ?_⟩
    exact h4 q hq (Nat.le_of_dvd (by omega) hqd) hqp
end Go.Proofs.YtjcpmoefkanjgaaDoor

/- Walks of package word: period. -/
namespace Go.Proofs.YtjcpmoefkanjgaaDoor
open Go.RowKit

/-- n numbers at the beginning are those that end with i, too -/
def Bord (l : List Int) (i n : Nat) : Prop := n ≤ i ∧ ∀ t, t < n → l.getD t 0 = l.getD (i + 1 - n + t) 0
def MaxB (l : List Int) (i n : Nat) : Prop := Bord l i n ∧ ∀ m, Bord l i m → m ≤ n
theorem bord_zero (l : List Int) (i : Nat) : Bord l i 0 := ⟨Nat.zero_le _, fun t h => absurd h (by omega)⟩
theorem bord_up {l : List Int} {i m : Nat} (h : Bord l i m) (e : l.getD (i + 1) 0 = l.getD m 0) : Bord l (i + 1) (m + 1) := by
  obtain ⟨h1, h2⟩ := h
  refine ⟨by omega, fun t ht => ?_⟩
  by_cases htm : t < m
  · rw [h2 t htm]; congr 1; omega
  · have : t = m := by omega
    subst this
    rw [← e]; congr 1; omega
theorem bord_down {l : List Int} {i m : Nat} (h : Bord l (i + 1) (m + 1)) : Bord l i m ∧ l.getD (i + 1) 0 = l.getD m 0 := by
  obtain ⟨h1, h2⟩ := h
  refine ⟨⟨by omega, fun t ht => ?_⟩, ?_⟩
  · rw [h2 t (by omega)]; congr 1; omega
  · rw [h2 m (by omega)]; congr 1; omega
theorem bord_trans {l : List Int} {i n m : Nat} (h : Bord l i (n + 1)) (h' : Bord l n m) : Bord l i m := by
  obtain ⟨h1, h2⟩ := h
  obtain ⟨h3, h4⟩ := h'
  refine ⟨by omega, fun t ht => ?_⟩
  rw [h4 t ht, h2 (n + 1 - m + t) (by omega)]
  congr 1
  omega
theorem bord_in {l : List Int} {i n m : Nat} (h : Bord l i (n + 1)) (h' : Bord l i m) (hm : m < n + 1) : Bord l n m := by
  obtain ⟨h1, h2⟩ := h
  obtain ⟨h3, h4⟩ := h'
  refine ⟨by omega, fun t ht => ?_⟩
  rw [h4 t ht, h2 (n + 1 - m + t) (by omega)]
  congr 1
  omega
/-- while same[i+1] is looked for -/
def Look (l : List Int) (i n : Nat) : Prop := Bord l i n ∧ ∀ m, Bord l i m → l.getD (i + 1) 0 = l.getD m 0 → m ≤ n
theorem look_start {l : List Int} {i n : Nat} (h : MaxB l i n) : Look l i n := ⟨h.1, fun m hm _ => h.2 m hm⟩
theorem look_step {l : List Int} {i n n' : Nat} (h : Look l i (n + 1)) (hne : l.getD (i + 1) 0 ≠ l.getD (n + 1) 0) (h' : MaxB l n n') : Look l i n' :=
  ⟨bord_trans h.1 h'.1, fun m hm he => by
    have h1 := h.2 m hm he
    have h2 : m ≠ n + 1 := fun e => hne (by rw [← e]; exact he)
    exact h'.2 m (bord_in h.1 hm (by omega))⟩
theorem look_hit {l : List Int} {i n : Nat} (h : Look l i n) (he : l.getD (i + 1) 0 = l.getD n 0) : MaxB l (i + 1) (n + 1) :=
  ⟨bord_up h.1 he, fun m hm => by
    cases m with
    | zero => omega
    | succ m => have := bord_down hm; have := h.2 m this.1 this.2; omega⟩
theorem look_miss {l : List Int} {i : Nat} (h : Look l i 0) (he : l.getD (i + 1) 0 ≠ l.getD 0 0) : MaxB l (i + 1) 0 :=
  ⟨bord_zero _ _, fun m hm => by
    cases m with
    | zero => omega
    | succ m =>
      have h1 := bord_down hm
      have h2 := h.2 m h1.1 h1.2
      have : m = 0 := by omega
      subst this
      exact absurd h1.2 he⟩
theorem maxB_zero (l : List Int) : MaxB l 0 0 := ⟨bord_zero _ _, fun _ hm => hm.1⟩
theorem maxB_end {l : List Int} {n : Nat} (hl : 0 < l.length) (h : MaxB l (l.length - 1) n) : n < l.length ∧ LPer l (if l.length % (l.length - n) ≠ 0 then l.length else l.length - n) := by
  have hn := h.1.1
  refine ⟨by omega, shift_LPer (by omega) (by omega) (fun i hi hi' => ?_) (fun q hq hql hqp => ?_)⟩
  · have := h.1.2 (i - (l.length - n)) (by omega)
    rw [this]
    congr 1
    omega
  · have := h.2 (l.length - q) ⟨by omega, fun t ht => by
      rw [hqp (l.length - 1 + 1 - (l.length - q) + t) (by omega) (by omega)]
      congr 1
      omega⟩
    omega

theorem CRow.drew {w0 w : World} {b n : Nat} {f : Nat → Int} (h : CRow w0 w b n f) : CRow w0 w.drew b n f := ⟨h.1.drew, h.2⟩

set_option maxHeartbeats 1000000 in
theorem period68 (w : World) (B : Nat) (v : Value) (l : List Int) (h : IntsV B w v l) (hB : B ≤ w.heap.size) (hl : 0 < l.length) (hl2 : l.length ≤ 20000) :
    Calls Tryd.prog 68 #[v] w fun e w' => Kept (fun _ => False) w w' ∧ ∃ P : Nat, e = .returned (.int .i64 (P : Int)) ∧ LPer l P := by
  obtain ⟨i0, hi, hz0, hz1, hz2⟩ := info_parts infoI
  have hmk : ∀ u : World, (Instr.makeSlice 46 (.int .i64 (l.length : Int)) (.int .i64 (l.length : Int))).run Tryd.prog u = .ok (.slice (some ⟨u.heap.size, 0, none⟩) l.length l.length) (u.alloc (.cells (madeCells #[.int .i64 0] l.length) 3)) := fun u => by
    have hh := run_make (P := Tryd.prog) u 46 3 i0 (.int .i64 0) Tryd.underlying46 hi hz0 .i64 .i64 (l.length : Int) (l.length : Int) (by omega) (Int.le_refl _) (by rw [hz2]; omega) (by omega)
    simpa [hz1, Value.cells] using hh
  rcases h.cases with ⟨rfl, _⟩ | ⟨_, b, off, cap, rfl, hcap, hcap2, hbB, hcell⟩
  · simp at hl
  have HC : Hid (∀ (wr : World), Kept (fun _ => False) w wr → ∀ i, i < l.length → wr.cell? ⟨b, off + i, none⟩ = some (.int .i64 (l.getD i 0))) := fun wr hk i hi => by
    rw [hk.cell (p := ⟨b, off + i, none⟩) (Nat.lt_of_lt_of_le hbB hB) (fun f => f), hcell i hi, List.getD_eq_getElem?_getD, List.getElem?_eq_getElem hi]
    rfl
  clear hcell h hi hz0 hz1 hz2
  go_enter Tryd.func68, Tryd.ntmps68
  go_wp2
  go_loopw [4, 5] (fun v4 _ wr => ∃ (i : Nat) (F : Nat → Nat), i < l.length ∧ v4 = .int .i64 ((i + 1 : Nat) : Int) ∧ CRow w wr w.heap.size l.length (fun k => (F k : Int)) ∧ ∀ k, k ≤ i → MaxB l k (F k)) (fun v4 _ _ => l.length - (intOf v4).toNat)
  case atStart => exact ⟨0, fun _ => 0, hl, rfl, (CRow.start w l.length).congr (fun i hi => by simp [occ]), fun k hk => by rw [Nat.le_zero.1 hk]; exact maxB_zero l⟩
  case round =>
    obtain ⟨i, F, hil, rfl, hcr, hF⟩ := hrel
    clear hmk
    by_cases hlt : i + 1 < l.length
    · have hlti : ((i + 1 : Nat) : Int) < (l.length : Int) := by omega
      have e1 : (((i + 1 : Nat) : Int) - 1) = (i : Int) := by omega
      have hci := (hcr.2.2 i hil).1
      have HL : Hid (Look l i (F i)) := look_start (hF i (Nat.le_refl _))
      have HF : Hid (∀ k, k ≤ i → MaxB l k (F k)) := hF
      have HCR : Hid (CRow w wr w.heap.size l.length (fun k => (F k : Int))) := hcr
      clear hcr hF
      go_wp2
      go_loopw [5] (fun v5 wq => ∃ n : Nat, v5 = .int .i64 (n : Int) ∧ Look l i n ∧ CRow w wq w.heap.size l.length (fun k => (F k : Int))) (fun v5 _ => (intOf v5).toNat)
      case atStart => exact ⟨F i, rfl, HL.out, HCR.out⟩
      case round =>
        obtain ⟨n, rfl, hlook, hcr⟩ := hrel
        have hn := hlook.1.1
        have cI := HC.out _ hcr.1 (i + 1) hlt
        have cN := HC.out _ hcr.1 n (by omega)
        have HLK : Hid (Look l i n) := hlook
        have hnl : (n : Int) < (l.length : Int) := by omega
        by_cases he : l.getD (i + 1) 0 = l.getD n 0
        · have HHit : Hid (MaxB l (i + 1) (n + 1)) := look_hit hlook he
          obtain ⟨hcS, hfS⟩ := hcr.2.2 (i + 1) hlt
          have HCR2 : Hid _ := hcr
          rw [he] at cI
          generalize l.getD n 0 = y at *
          clear he hlook hcr
          by_cases hz : n = 0
          · subst hz
            rw [Nat.add_zero] at cN
            have hlt2 : (i : Int) + 1 < (l.length : Int) := by omega
            go_wp2
            go_region
            go_wp2
            go_region
            go_wp2
            go_roundw
            case rel => exact ⟨i + 1, fun k => if k = i + 1 then 0 + 1 else F k, hlt, by go_num, CRow.put (CRow.drew (CRow.drew HCR2.out)) hlt (fun k hk => by by_cases e : k = i + 1 <;> simp [e]), fun k hk => by
              by_cases e : k = i + 1
              · simp only [e, if_true]; exact HHit.out
              · simp only [e, if_false]; exact HF.out k (by omega)⟩
            case measure => simp [intOf]; omega
          · have hpos : (0 : Int) < (n : Int) := by omega
            have hposn : 0 < n := by omega
            have hlt2 : (i : Int) + 1 < (l.length : Int) := by omega
            go_wp2
            go_region
            go_wp2
            go_region
            go_wp2
            go_roundw
            case rel => exact ⟨i + 1, fun k => if k = i + 1 then n + 1 else F k, hlt, by go_num, CRow.put (CRow.drew (CRow.drew HCR2.out)) hlt (fun k hk => by by_cases e : k = i + 1 <;> simp [e]), fun k hk => by
              by_cases e : k = i + 1
              · simp only [e, if_true]; exact HHit.out
              · simp only [e, if_false]; exact HF.out k (by omega)⟩
            case measure => simp [intOf]; omega
        · have heb : (l.getD (i + 1) 0 == l.getD n 0) = false := by simpa using he
          have hnb : (l.getD (i + 1) 0 != l.getD n 0) = true := by simpa using he
          obtain ⟨hcS, hfS⟩ := hcr.2.2 (i + 1) hlt
          have HCR2 : Hid (CRow w wr w.heap.size l.length (fun k => (F k : Int))) := hcr
          have hlt2 : (i : Int) + 1 < (l.length : Int) := by omega
          by_cases hz : n = 0
          · subst hz
            have HMiss : Hid (MaxB l (i + 1) 0) := look_miss hlook he
            rw [Nat.add_zero] at cN
            generalize l.getD (i + 1) 0 = x at *
            generalize l.getD 0 0 = y at *
            clear hlook hcr
            go_wp2
            go_region
            go_wp2
            go_region
            go_wp2
            go_roundw
            case rel => exact ⟨i + 1, fun k => if k = i + 1 then 0 else F k, hlt, by go_num, CRow.put (CRow.drew (CRow.drew HCR2.out)) hlt (fun k hk => by by_cases e : k = i + 1 <;> simp [e]), fun k hk => by
              by_cases e : k = i + 1
              · simp only [e, if_true]; exact HMiss.out
              · simp only [e, if_false]; exact HF.out k (by omega)⟩
            case measure => simp [intOf]; omega
          · obtain ⟨n', rfl⟩ : ∃ n', n = n' + 1 := ⟨n - 1, by omega⟩
            have hmb := HF.out n' (by omega)
            have HStep : Hid (Look l i (F n')) := look_step hlook he hmb
            have hle : F n' ≤ n' := hmb.1.1
            have hcn := (hcr.2.2 n' (by omega)).1
            have e2 : (((n' + 1 : Nat) : Int) - 1) = (n' : Int) := by omega
            have hpos : (0 : Int) < ((n' + 1 : Nat) : Int) := by omega
            have hnl2 : (n' : Int) < (l.length : Int) := by omega
            have hnl3 : (n' : Int) + 1 < (l.length : Int) := by omega
            generalize l.getD (i + 1) 0 = x at *
            generalize l.getD (n' + 1) 0 = y at *
            clear hlook hcr
            go_wp2
            go_region
            go_wp2
            go_roundw
            case rel => exact ⟨F n', by go_num, HStep.out, CRow.drew HCR2.out⟩
            case measure => simp [intOf]; omega
    · have hlen : l.length = i + 1 := by omega
      have hc1 : wr.cell? ⟨w.heap.size, i, none⟩ = some (.int .i64 (F i : Int)) := (hcr.2.2 i hil).1
      have hmb := hF i (Nat.le_refl _)
      have hend := maxB_end hl (by rw [hlen]; exact hmb)
      have HK : Hid _ := hcr.1
      have e1 : ((l.length : Int) - 1) = (i : Int) := by omega
      have hili : (i : Int) < (l.length : Int) := by omega
      have HLEN : Hid _ := hlen
      clear hlen hF hmb hcr
      have hlti : ¬ (i : Int) + 1 < (l.length : Int) := by omega
      obtain ⟨n, hFn⟩ : ∃ n, n = F i := ⟨_, rfl⟩
      rw [← hFn] at hc1 hend
      clear hFn
      have hsub : ((l.length : Int) - (n : Int)) = ((l.length - n : Nat) : Int) := by omega
      have hnz : ¬ ((l.length - n : Nat) : Int) = 0 := by omega
      have hnz2 : ¬ (l.length - n : Nat) = 0 := by omega
      have hmod : (l.length : Int).tmod ((l.length - n : Nat) : Int) = ((l.length % (l.length - n) : Nat) : Int) := by
        rw [Int.tmod_eq_emod_of_nonneg (by omega)]
        rfl
      by_cases hm : l.length % (l.length - n) = 0
      · rw [hm] at hmod
        have HE : Hid (LPer l (l.length - n)) := by
          have := hend.2
          rwa [if_neg (by omega)] at this
        have HM : Hid _ := hm
        clear hend hm
        generalize hq : l.length - n = q at *
        have HQ : Hid _ := hq
        clear hq
        go_wp2
        go_ret
        exact ⟨HK.out, _, rfl, HE.out⟩
      · have HE : Hid (LPer l l.length) := by
          have := hend.2
          rwa [if_pos (by omega)] at this
        clear hend
        generalize hq : l.length - n = q at *
        have HQ : Hid _ := hq
        clear hq
        go_wp2
        go_ret
        exact ⟨HK.out, _, rfl, HE.out⟩
end Go.Proofs.YtjcpmoefkanjgaaDoor

/- Walks of package word: fromEnd. -/
namespace Go.Proofs.YtjcpmoefkanjgaaDoor
open Go.RowKit

set_option maxHeartbeats 1000000 in
theorem fromEnd69 (w : World) (B : Nat) (v : Value) (l : List Int) (n : Nat) (h : IntsV B w v l) (hl : 0 < l.length) (hl2 : l.length ≤ 20000) (hn : n ≤ 20000) :
    Calls Tryd.prog 69 #[v, .int .i64 (n : Int)] w fun e w' => w' = w ∧ e = .returned (.int .i64 (l.getD (l.length - 1 - n % l.length) 0)) := by
  rcases h.cases with ⟨rfl, _⟩ | ⟨_, b, off, cap, rfl, hcap, hcap2, hbB, hcell⟩
  · simp at hl
  have hq := Nat.mod_lt n hl
  obtain ⟨q, hqe⟩ : ∃ q, q = l.length - 1 - n % l.length := ⟨_, rfl⟩
  have hql : q < l.length := by omega
  have hc := hcell q hql
  have hqi : (q : Int) < (l.length : Int) := by omega
  have hmod : (n : Int).tmod (l.length : Int) = ((n % l.length : Nat) : Int) := by
    rw [Int.tmod_eq_emod_of_nonneg (by omega)]
    rfl
  have hsub : ((l.length : Int) - 1 - ((n % l.length : Nat) : Int)) = (q : Int) := by omega
  have hlz : ¬ (l.length : Int) = 0 := by omega
  have hlz2 : ¬ l.length = 0 := by omega
  have HE : Hid (l.getD (l.length - 1 - n % l.length) 0 = l[q]) := by
    rw [← hqe, List.getD_eq_getElem?_getD, List.getElem?_eq_getElem hql]
    rfl
  clear hcell hqe
  generalize hr : n % l.length = r at *
  clear hr
  go_enter Tryd.func69, Tryd.ntmps69
  go_wp2
  go_ret
  exact ⟨rfl, ret_int HE.out.symm⟩
end Go.Proofs.YtjcpmoefkanjgaaDoor

/- slices.Grow of nothing. -/
namespace Go.Proofs.YtjcpmoefkanjgaaDoor
open Go.RowKit Go.Lib

theorem zeros_cell (w : World) (a b i : Nat) (hi : i < a + b) : (w.alloc (.cells (Builtin.zeroCells #[.int .i64 0] a ++ Builtin.zeroCells #[.int .i64 0] b) 3)).cell? ⟨w.heap.size, i, none⟩ = some (.int .i64 0) := by
  rw [World.cell?_alloc_at (hn := rfl)]
  by_cases h : i < a
  · rw [Array.getElem?_append_left (by simpa [size_zeroCells] using h)]
    simp [Builtin.zeroCells, h, Nat.mod_one]
  · rw [Array.getElem?_append_right (by simp [size_zeroCells]; omega)]
    have : i - a < b := by omega
    simp [Builtin.zeroCells, this, Nat.mod_one]

set_option maxRecDepth 100000 in
set_option maxHeartbeats 1000000 in
theorem grow113 (w : World) (n : Nat) (h0 : 0 < n) (hn : n ≤ 20000) :
    Calls Tryd.prog 113 #[.slice none 0 0, .int .i64 (n : Int)] w fun e w' => ∃ cap, e = .returned (.slice (some ⟨w.heap.size, 0, none⟩) 0 cap) ∧ n ≤ cap ∧ IRow w w' w.heap.size cap [] := by
  obtain ⟨i0, hi, hz0, hz1, hz2⟩ := info_parts infoI
  have hrz : ∀ ty, (Builtin.append_ #[101, 3] ty #[.slice none 0 0, .int .i64 (n : Int)]).run Tryd.prog w = .ok (.slice (some ⟨w.heap.size, 0, none⟩) n (grownCap w n 0 3)) (w.drew.alloc (.cells (Builtin.zeroCells #[.int .i64 0] n ++ Builtin.zeroCells #[.int .i64 0] (grownCap w n 0 3 - n)) 3)) := fun ty => by
    have h := Lib.run_append_grow_zeros (P := Tryd.prog) w 101 3 ty 3 i0 (.int .i64 0) .i64 .i64 Tryd.underlying101 Tryd.underlying3 hi hz0 none 0 0 [] (by rw [hz1]; exact run_firstCells_none w.drew 1 0 0 0) n h0 (by omega) (by omega) (by omega) (by rw [hz2]; omega) (by rw [hz2]; exact growslice_fits (by omega) (by omega))
    simpa [Value.cells] using h
  have hG := grownCap_ge w n 0 3
  have hG2 : grownCap w n 0 3 ≤ 9223372036854775807 := by
    have := grownCap_le_maxLen w n 0 3 (by unfold maxLen; omega)
    unfold maxLen at this
    omega
  generalize grownCap w n 0 3 = G at *
  go_enter Tryd.func113, Tryd.ntmps113
  go_wp2_with (at_builtin; refine Lib.wpList_append_run _ rfl _ _ _ _ rfl _ _ rfl rfl _ _ (hrz _) ?_)
  all_goals
    go_ret
    refine ⟨G, rfl, hG, ((Kept.refl _ _).drew).alloc _, Nat.le_refl _, Nat.zero_le _, fun i hi => ?_, fun i hi => absurd hi (by simp)⟩
    exact ⟨Option.isSome_iff_exists.2 ⟨_, zeros_cell w n (G - n) i (by omega)⟩, by simp⟩
end Go.Proofs.YtjcpmoefkanjgaaDoor

/- slices.Concat of two. -/
namespace Go.Proofs.YtjcpmoefkanjgaaDoor
open Go.RowKit Go.Shelf

theorem append_ints_of {w0 w : World} {b n B : Nat} {xs ys : List Int} {v : Value} {t tx : TypeId} (htx : Tryd.prog.underlying tx = some (.slice 3)) (ht : Tryd.prog.underlying t = some (.slice 3)) (h : IRow w0 w b n xs) (hl : xs.length + ys.length ≤ n) (hv : IntsV B w v ys) :
    ∀ ty, (Builtin.append_ #[t, tx] ty #[.slice (some ⟨b, 0, none⟩) xs.length n, v]).run Tryd.prog w = .ok (.slice (some ⟨b, 0, none⟩) (xs.length + ys.length) n) (w.setCells b xs.length (ys.map (Value.int .i64))) := by
  intro ty
  obtain ⟨i0, hi, hz0, hz1, hz2⟩ := info_parts info3'
  have hsrc : Src Tryd.prog i0.size tx v ys.length (ys.map (Value.int .i64)) w := by
    rw [hz1]
    obtain ⟨a, cap, rfl, hc1, hc2, hc⟩ := hv
    cases a with
    | none =>
      have : ys = [] := by
        cases ys with
        | nil => rfl
        | cons y r => obtain ⟨_, _, e, _⟩ := hc 0 y rfl; cases e
      subst this
      exact Src.ofNil w htx cap
    | some ad =>
      refine Src.ofSlice w htx ad ys.length cap (ys.map (Value.int .i64)) (by simp) (fun j u hu => ?_) (ints_oneCell .i64 ys)
      simp only [List.getElem?_map, Option.map_eq_some_iff] at hu
      obtain ⟨y, hy, rfl⟩ := hu
      obtain ⟨b', off, e, _, hcell⟩ := hc j y hy
      cases e
      have e2 : (⟨b', off, none⟩ : Addr).add j = ⟨b', off + j, none⟩ := by
        unfold Addr.add
        by_cases h0 : j = 0
        · subst h0; simp
        · simp [h0]
      rw [e2]
      exact hcell
  have := run_append_room_src (P := Tryd.prog) w t tx ty 3 i0 ht hi b 0 xs.length n v ys.length (ys.map (Value.int .i64)) hsrc hl
    (fun j hj => by rw [hz1]; simp only [Nat.zero_add, Nat.mul_one]; exact (h.2.2.2.1 _ (by simp at hj; omega)).1) (fun j hj => by rw [hz1]; simp only [Nat.zero_add, Nat.mul_one]; exact (h.2.2.2.1 _ (by simp at hj; omega)).2)
  rw [hz1] at this
  simpa using this

set_option maxRecDepth 100000 in
set_option maxHeartbeats 1000000 in
theorem concat70 (w : World) (B ab : Nat) (va vb : Value) (xs ys : List Int) (hB : B ≤ w.heap.size) (c0 : w.cell? ⟨ab, 0, none⟩ = some va) (c1 : w.cell? ⟨ab, 1, none⟩ = some vb) (ha : IntsV B w va xs) (hb : IntsV B w vb ys) (h0 : 0 < xs.length + ys.length) (hn : xs.length + ys.length ≤ 20000) :
    Calls Tryd.prog 70 #[.slice (some ⟨ab, 0, none⟩) 2 2] w fun e w' => ∃ b cap, e = .returned (.slice (some ⟨b, 0, none⟩) (xs.length + ys.length) cap) ∧ IRow w w' b cap (xs ++ ys) := by
  obtain ⟨aa, ac, rfl, _⟩ := ha.form
  obtain ⟨ba, bc, rfl, _⟩ := hb.form
  have HA : Hid (IntsV B w (.slice aa xs.length ac) xs) := ha
  have HB : Hid (IntsV B w (.slice ba ys.length bc) ys) := hb
  clear ha hb
  go_enter Tryd.func70, Tryd.ntmps70
  go_wp2
  go_loop [3, 5, 11] (fun s _ i => (i = .int .i64 0 ∧ s = .int .i64 0) ∨ (i = .int .i64 1 ∧ s = .int .i64 (xs.length : Int)) ∨ (i = .int .i64 2 ∧ s = .int .i64 ((xs.length + ys.length : Nat) : Int))) (fun _ _ i => 2 - (intOf i).toNat)
  case atStart => exact .inl ⟨rfl, rfl⟩
  case round =>
    rcases hrel with ⟨rfl, rfl⟩ | ⟨rfl, rfl⟩ | ⟨rfl, rfl⟩
    · go_wp2
      go_round
      case rel => exact .inr (.inl ⟨by go_num, by go_num⟩)
      case measure => simp [intOf]
    · have hneg : ¬ ((xs.length : Int) + (ys.length : Int) < 0) := by omega
      go_wp2
      go_round
      case rel => exact .inr (.inr ⟨by go_num, by go_num⟩)
      case measure => simp [intOf]
    · go_upto_region 10 with (go_at_call 113; refine (grow113 _ (xs.length + ys.length) h0 hn).mono ?_; rintro e w1 ⟨cap, rfl, hcap, hI⟩)
      have hk1 := hI.1
      have d0 := (hk1.cell (p := ⟨ab, 0, none⟩) (lt_of_cell c0) (fun f => f)).trans c0
      have HI : Hid (IRow w w1 w.heap.size cap []) := hI
      clear hI hk1
      go_wp2_with fail
      go_loopw [6, 8, 27] (fun s _ i wr => (i = .int .i64 0 ∧ s = .slice (some ⟨w.heap.size, 0, none⟩) 0 cap ∧ IRow w wr w.heap.size cap []) ∨ (i = .int .i64 1 ∧ s = .slice (some ⟨w.heap.size, 0, none⟩) xs.length cap ∧ IRow w wr w.heap.size cap xs) ∨ (i = .int .i64 2 ∧ s = .slice (some ⟨w.heap.size, 0, none⟩) (xs.length + ys.length) cap ∧ IRow w wr w.heap.size cap (xs ++ ys))) (fun _ _ i _ => 2 - (intOf i).toNat)
      case atStart => exact .inl ⟨rfl, rfl, HI.out⟩
      case round =>
        rcases hrel with ⟨rfl, rfl, hr⟩ | ⟨rfl, rfl, hr⟩ | ⟨rfl, rfl, hr⟩
        · have e0 := (hr.1.cell (p := ⟨ab, 0, none⟩) (lt_of_cell c0) (fun f => f)).trans c0
          have hA := HA.out.below (hr.1.below hB (fun _ f => f.elim))
          have hx := append_ints_of Tryd.underlying101 Tryd.underlying101 hr (by simp; omega) hA
          have hr2 := hr.fill (ys := xs) (by simp; omega)
          simp only [List.length_nil, Nat.zero_add, List.nil_append] at hx hr2
          have HX : Hid _ := hx
          have HR2 : Hid _ := hr2
          clear hx hr2 hA hr
          go_wp2_with (at_builtin; refine wpList_append_run rfl _ _ 101 101 rfl (.slice (some ⟨w.heap.size, 0, none⟩) 0 cap) (.slice aa xs.length ac) rfl rfl HX.out ?_)
          go_roundw
          case rel => exact .inr (.inl ⟨by go_num, rfl, HR2.out⟩)
          case measure => simp [intOf]
        · have e0 := (hr.1.cell (p := ⟨ab, 1, none⟩) (lt_of_cell c1) (fun f => f)).trans c1
          have hA := HB.out.below (hr.1.below hB (fun _ f => f.elim))
          have hx := append_ints_of Tryd.underlying101 Tryd.underlying101 hr (by omega) hA
          have hr2 := hr.fill (ys := ys) (by omega)
          have HX : Hid _ := hx
          have HR2 : Hid _ := hr2
          clear hx hr2 hA hr
          go_wp2_with (at_builtin; refine wpList_append_run rfl _ _ 101 101 rfl (.slice (some ⟨w.heap.size, 0, none⟩) xs.length cap) (.slice ba ys.length bc) rfl rfl HX.out ?_)
          go_roundw
          case rel => exact .inr (.inr ⟨by go_num, rfl, HR2.out⟩)
          case measure => simp [intOf]
        · have HR : Hid _ := hr
          clear hr
          go_wp2
          go_ret
          exact ⟨w.heap.size, cap, rfl, HR.out⟩
end Go.Proofs.YtjcpmoefkanjgaaDoor

/- slices.Equal of ints. -/
namespace Go.Proofs.YtjcpmoefkanjgaaDoor
open Go.RowKit

set_option maxRecDepth 100000 in
set_option maxHeartbeats 1000000 in
theorem equal73 (w : World) (B C : Nat) (va vb : Value) (xs ys : List Int) (ha : IntsV B w va xs) (hb : IntsV C w vb ys) (hB : B ≤ w.heap.size) (hC : C ≤ w.heap.size) :
    Calls Tryd.prog 73 #[va, vb] w fun e w' => Kept (fun _ => False) w w' ∧ e = .returned (.bool (decide (xs = ys))) := by
  obtain ⟨aa, ac, rfl, hal⟩ := ha.form
  obtain ⟨ba, bc, rfl, hbl⟩ := hb.form
  by_cases hl : xs.length = ys.length
  · have HL : Hid _ := hl
    have HA : Hid (IntsV B w (.slice aa xs.length ac) xs) := ha
    have HB : Hid (IntsV C w (.slice ba ys.length bc) ys) := hb
    have hlb : ((xs.length : Int) != (ys.length : Int)) = false := by simp; omega
    clear ha hb hl
    go_enter Tryd.func73, Tryd.ntmps73
    go_wp2
    go_loopw [5, 13] (fun _ i wr => ∃ k : Nat, k ≤ xs.length ∧ i = .int .i64 k ∧ Kept (fun _ => False) w wr ∧ ∀ j, j < k → xs[j]? = ys[j]?) (fun _ i _ => xs.length - (intOf i).toNat)
    case atStart => exact ⟨0, Nat.zero_le _, rfl, Kept.refl _ _, fun j hj => absurd hj (by omega)⟩
    case round =>
      obtain ⟨k, hk, rfl, hkw, heq⟩ := hrel
      have HQ : Hid (∀ j, j < k → xs[j]? = ys[j]?) := heq
      clear heq
      by_cases hlt : k < xs.length
      · have hlt2 : k < ys.length := by have := HL.out; omega
        obtain ⟨_, _, e1, _, _, q1⟩ := HA.out.below (hkw.below hB (fun _ f => f.elim))
        obtain ⟨b1, o1, r1, _, d1⟩ := q1 k xs[k] (List.getElem?_eq_getElem hlt)
        obtain ⟨_, _, e2, _, _, q2⟩ := HB.out.below (hkw.below hC (fun _ f => f.elim))
        obtain ⟨b2, o2, r2, _, d2⟩ := q2 k ys[k] (List.getElem?_eq_getElem hlt2)
        cases e1
        cases e2
        subst r1 r2
        have hi1 : (k : Int) < (xs.length : Int) := by omega
        have hi2 : (k : Int) < (ys.length : Int) := by omega
        clear q1 q2
        have HX : Hid (xs[k]? = some xs[k]) := List.getElem?_eq_getElem hlt
        have HY : Hid (ys[k]? = some ys[k]) := List.getElem?_eq_getElem hlt2
        by_cases he : xs[k] = ys[k]
        · have HE : Hid (xs[k] = ys[k]) := he
          rw [he] at d1
          clear he
          generalize ys[k] = y at *
          go_wp2
          go_region
          go_wp2
          go_roundw
          case rel => exact ⟨k + 1, by omega, by go_num, hkw.drew, fun j hj => by
            by_cases e : j = k
            · subst e; rw [HX.out, HY.out, HE.out]
            · exact HQ.out j (by omega)⟩
          case measure => simp [intOf]; omega
        · have hneb : (xs[k] != ys[k]) = true := by simpa using he
          have HN : Hid (xs ≠ ys) := fun h => by
            have h1 : some xs[k] = some ys[k] := HX.out.symm.trans ((congrArg (fun l => l[k]?) h).trans HY.out)
            exact he (Option.some.inj h1)
          generalize xs[k] = x at *
          generalize ys[k] = y at *
          go_wp2
          go_region
          go_wp2
          go_ret
          exact ⟨hkw.drew, ret_bool (by simp [HN.out])⟩
      · have HN : Hid (xs = ys) := List.ext_getElem? fun j => by
          by_cases hj : j < k
          · exact HQ.out j hj
          · rw [List.getElem?_eq_none (by omega), List.getElem?_eq_none (by have := HL.out; omega)]
        have hi1 : ¬ (k : Int) < (xs.length : Int) := by omega
        go_wp2
        go_ret
        exact ⟨hkw, ret_bool (by simp [HN.out])⟩
  · have hne : xs ≠ ys := fun h => hl (by rw [h])
    have hlb : ((xs.length : Int) != (ys.length : Int)) = true := by simp; omega
    go_enter Tryd.func73, Tryd.ntmps73
    go_wp2
    go_ret
    exact ⟨Kept.refl _ _, ret_bool (by simp [hne])⟩
end Go.Proofs.YtjcpmoefkanjgaaDoor

/- Words as rows without an end: what the shortest one is. -/
namespace Go.Proofs.YtjcpmoefkanjgaaDoor
open Go.RowKit

/-- a word's letters -/
def wAt (hd lp : List Int) (i : Nat) : Int := if i < hd.length then hd.getD i 0 else lp.getD ((i - hd.length) % lp.length) 0
theorem wAt_cyc (hd lp : List Int) (i : Nat) : wAt hd lp (hd.length + i) = cyc lp i := by
  unfold wAt cyc
  rw [if_neg (by omega), Nat.add_sub_cancel_left]
/-- from h on it comes again after P, and with nothing shorter; and one ahead of h it does not -/
def Norm (x : Nat → Int) (h P : Nat) : Prop := 1 ≤ P ∧ PerI x h P ∧ (∀ H e, 1 ≤ e → PerI x H e → P ≤ e) ∧ (h = 0 ∨ x (h - 1) ≠ x (h - 1 + P))
theorem PerI.later {x : Nat → Int} {h h' p : Nat} (hp : PerI x h p) (hh : h ≤ h') : PerI x h' p := fun i hi => hp i (by omega)
theorem norm_le {x : Nat → Int} {h P h' : Nat} (n : Norm x h P) (q : PerI x h' P) : h ≤ h' := by
  rcases n.2.2.2 with h0 | hne
  · omega
  · by_cases hl : h ≤ h'
    · exact hl
    · exact absurd (q (h - 1) (by omega)).symm hne
theorem norm_inj {x : Nat → Int} {h P h' P' : Nat} (n : Norm x h P) (n' : Norm x h' P') : h = h' ∧ P = P' := by
  have e : P = P' := Nat.le_antisymm (n.2.2.1 h' P' n'.1 n'.2.1) (n'.2.2.1 h P n.1 n.2.1)
  subst e
  exact ⟨Nat.le_antisymm (norm_le n n'.2.1) (norm_le n' n.2.1), rfl⟩

theorem LPer.per {lp : List Int} {P : Nat} (h : LPer lp P) (hd : List Int) : PerI (wAt hd lp) hd.length P := by
  intro i hi
  obtain ⟨j, rfl⟩ : ∃ j, i = hd.length + j := ⟨i - hd.length, by omega⟩
  rw [Nat.add_assoc, wAt_cyc, wAt_cyc]
  exact h.2.2.1.cyc h.2.1 j (by omega)
theorem LPer.least {lp : List Int} {P : Nat} (h : LPer lp P) (hl : 0 < lp.length) (hd : List Int) (H e : Nat) (he : 1 ≤ e) (hp : PerI (wAt hd lp) H e) : P ≤ e := by
  have hc : PerI (cyc lp) 0 e := by
    intro i _
    have hm : H ≤ lp.length * H := Nat.le_mul_of_pos_left H hl
    have a1 := (cyc_len lp).mul H (i + e) (by omega)
    have a2 := (cyc_len lp).mul H i (by omega)
    have a3 := hp (hd.length + (i + lp.length * H)) (by omega)
    rw [Nat.add_assoc, wAt_cyc, wAt_cyc] at a3
    rw [← a1, ← a2, ← a3]
    congr 1
    omega
  have hg := (hc.gcd e lp.length (cyc_len lp)).list
  have hgp : 0 < Nat.gcd e lp.length := Nat.gcd_pos_of_pos_left _ he
  have := h.2.2.2 _ hgp (Nat.gcd_dvd_right _ _) hg
  have := Nat.gcd_le_left lp.length (show 0 < e by omega)
  omega
/-- the shortest Loop, and as much of the Head as does not come again -/
def Short (hd lp : List Int) (h P : Nat) : Prop := LPer lp P ∧ h ≤ hd.length ∧ (∀ i, h ≤ i → i < hd.length → wAt hd lp (i + P) = wAt hd lp i) ∧ (h = 0 ∨ wAt hd lp (h - 1) ≠ wAt hd lp (h - 1 + P))
theorem Short.norm {hd lp : List Int} {h P : Nat} (s : Short hd lp h P) (hl : 0 < lp.length) : Norm (wAt hd lp) h P :=
  ⟨s.1.1, fun i hi => by
    by_cases hh : i < hd.length
    · exact s.2.2.1 i hi hh
    · exact s.1.per hd i (by omega), fun H e he hp => s.1.least hl hd H e he hp, s.2.2.2⟩
theorem Short.inj {hd lp : List Int} {h P h' P' : Nat} (s : Short hd lp h P) (s' : Short hd lp h' P') (hl : 0 < lp.length) : h = h' ∧ P = P' := norm_inj (s.norm hl) (s'.norm hl)

/-- the letters from one place on, so many -/
def cutW (x : Nat → Int) (a n : Nat) : List Int := (List.range n).map fun i => x (a + i)
theorem cutW_length (x : Nat → Int) (a n : Nat) : (cutW x a n).length = n := by simp [cutW]
theorem cutW_get {x y : Nat → Int} {a b n : Nat} (h : cutW x a n = cutW y b n) {i : Nat} (hi : i < n) : x (a + i) = y (b + i) := by
  have := congrArg (fun l => l[i]?) h
  simpa [cutW, hi] using this

theorem per_all {x y : Nat → Int} {h P : Nat} (hP : 1 ≤ P) (px : PerI x h P) (py : PerI y h P) (e0 : ∀ i, i < h + P → x i = y i) : ∀ i, x i = y i := by
  intro i
  induction i using Nat.strongRecOn with
  | _ i ih =>
    by_cases hi : i < h + P
    · exact e0 i hi
    · have a := px (i - P) (by omega)
      have b := py (i - P) (by omega)
      rw [Nat.sub_add_cancel (by omega)] at a b
      rw [a, b]
      exact ih (i - P) (by omega)
/-- two that come again, the one after p letters, the other one after q, are the same, if they are so for p + q letters -/
theorem two_all {x y : Nat → Int} {N p q : Nat} (px : PerI x N p) (py : PerI y N q) (hp : 1 ≤ p) (hq : 1 ≤ q) (e0 : ∀ i, i < N + p + q → x i = y i) : ∀ i, x i = y i := by
  intro i
  induction i using Nat.strongRecOn with
  | _ i ih =>
    by_cases hi : i < N + p + q
    · exact e0 i hi
    · have a1 := px (i - p) (by omega)
      have a2 := py (i - p - q) (by omega)
      have a3 := px (i - p - q) (by omega)
      have a4 := py (i - q) (by omega)
      rw [Nat.sub_add_cancel (by omega)] at a1 a2 a4
      rw [show i - p - q + p = i - q by omega] at a3
      rw [a1, ih (i - p) (by omega), a2, ← ih (i - p - q) (by omega), ← a3, ih (i - q) (by omega), ← a4]
theorem wAt_per (hd lp : List Int) : PerI (wAt hd lp) hd.length lp.length := by
  intro i hi
  obtain ⟨j, rfl⟩ : ∃ j, i = hd.length + j := ⟨i - hd.length, by omega⟩
  rw [Nat.add_assoc, wAt_cyc, wAt_cyc]
  exact cyc_len lp j (by omega)

/-- two words mean the same just if their shortest ones are the same -/
theorem same_iff {hd lp hd' lp' : List Int} {h P h' P' : Nat} (hl : 0 < lp.length) (hl' : 0 < lp'.length) (s : Short hd lp h P) (s' : Short hd' lp' h' P') :
    (cutW (wAt hd lp) 0 h = cutW (wAt hd' lp') 0 h' ∧ cutW (wAt hd lp) h P = cutW (wAt hd' lp') h' P') ↔ ∀ i, i < max hd.length hd'.length + lp.length + lp'.length → wAt hd lp i = wAt hd' lp' i := by
  have n := s.norm hl
  have n' := s'.norm hl'
  constructor
  · rintro ⟨e1, e2⟩ i _
    have l1 := congrArg List.length e1
    have l2 := congrArg List.length e2
    rw [cutW_length, cutW_length] at l1 l2
    subst l1 l2
    refine per_all n.1 n.2.1 n'.2.1 (fun i hi => ?_) i
    by_cases hh : i < h
    · have := cutW_get e1 hh
      rwa [Nat.zero_add] at this
    · have := cutW_get e2 (show i - h < P by omega)
      rwa [Nat.add_sub_cancel' (by omega)] at this
  · intro e
    have hx : wAt hd lp = wAt hd' lp' := funext (two_all ((wAt_per hd lp).later (Nat.le_max_left _ _)) ((wAt_per hd' lp').later (Nat.le_max_right _ _)) hl hl' e)
    rw [← hx] at n'
    obtain ⟨rfl, rfl⟩ := norm_inj n n'
    rw [hx]
    exact ⟨rfl, rfl⟩

/-- a Head that ends as the Loop does is as well without that end, if the Loop begins as much earlier -/
theorem back_short {hd lp : List Int} {P k : Nat} (hp : LPer lp P) (hl : 0 < lp.length) (hk : k ≤ hd.length)
    (hm : ∀ j, j < k → hd.getD (hd.length - 1 - j) 0 = lp.getD (P - 1 - j % P) 0) (he : k = hd.length ∨ hd.getD (hd.length - 1 - k) 0 ≠ lp.getD (P - 1 - k % P) 0) :
    Short hd lp (hd.length - k) P ∧ ∀ i, wAt hd lp (hd.length - k + i) = lp.getD ((i + (P - k % P)) % P) 0 := by
  have hP := hp.1
  have hPl : P ≤ lp.length := Nat.le_of_dvd hl hp.2.1
  have hcyc : ∀ i, cyc lp i = lp.getD (i % P) 0 := fun i => by
    have a := (hp.2.2.1.cyc hp.2.1).mul (i / P) (i % P) (by omega)
    rw [Nat.mod_add_div] at a
    rw [a, cyc, Nat.mod_eq_of_lt (by have := Nat.mod_lt i (show 0 < P by omega); omega)]
  have hat : ∀ i, wAt hd lp (hd.length - k + i) = lp.getD ((i + (P - k % P)) % P) 0 := fun i => by
    have hkm := Nat.mod_lt k (show 0 < P by omega)
    by_cases hi : i < k
    · unfold wAt
      rw [if_pos (by omega), show hd.length - k + i = hd.length - 1 - (k - 1 - i) by omega, hm (k - 1 - i) (by omega)]
      congr 1
      have hj := Nat.mod_lt (k - 1 - i) (show 0 < P by omega)
      have e1 := Nat.mod_add_div (k - 1 - i) P
      have e2 := Nat.mod_add_div k P
      obtain ⟨D, hD⟩ : ∃ D, k / P = (k - 1 - i) / P + D := ⟨k / P - (k - 1 - i) / P, by have := Nat.div_le_div_right (c := P) (show k - 1 - i ≤ k by omega); omega⟩
      rw [hD, Nat.mul_add] at e2
      clear hD
      generalize k % P = b at *
      generalize (k - 1 - i) % P = a at *
      generalize P * ((k - 1 - i) / P) = A at *
      have e3 : i + (P - b) = (P - 1 - a) + P * D := by
        generalize P * D = C at *
        omega
      rw [e3, Nat.add_mul_mod_self_left, Nat.mod_eq_of_lt (by omega)]
    · rw [show hd.length - k + i = hd.length + (i - k) by omega, wAt_cyc, hcyc]
      congr 1
      have e2 := Nat.mod_add_div k P
      have e3 : i + (P - k % P) = (i - k) + P * (k / P + 1) := by
        rw [Nat.mul_add, Nat.mul_one]
        generalize k % P = b at *
        generalize P * (k / P) = A at *
        omega
      rw [e3, Nat.add_mul_mod_self_left]
  refine ⟨⟨hp, by omega, fun i h1 h2 => ?_, ?_⟩, hat⟩
  · obtain ⟨j, rfl⟩ : ∃ j, i = hd.length - k + j := ⟨i - (hd.length - k), by omega⟩
    rw [Nat.add_assoc, hat, hat]
    congr 1
    rw [show j + P + (P - k % P) = j + (P - k % P) + P by omega, Nat.add_mod_right]
  · rcases he with he | he
    · exact .inl (by omega)
    · by_cases hkl : k = hd.length
      · exact .inl (by omega)
      · right
        have hkm := Nat.mod_lt k (show 0 < P by omega)
        have h1 : wAt hd lp (hd.length - k - 1) = hd.getD (hd.length - 1 - k) 0 := by
          unfold wAt
          rw [if_pos (by omega)]
          congr 1
          omega
        have h2 := hat (P - 1)
        rw [show P - 1 + (P - k % P) = (P - 1 - k % P) + P by omega, Nat.add_mod_right, Nat.mod_eq_of_lt (by omega)] at h2
        rw [h1, show hd.length - k - 1 + P = hd.length - k + (P - 1) by omega, h2]
        exact he
end Go.Proofs.YtjcpmoefkanjgaaDoor
