import Derived.Test.YtdbpdanocpfboabGreatDoorZEv
import Derived.Test.YtdbpdanocpfboabGreatDoorZSh
import Derived.Laws.IdiomStrings
/- The program's isName; letter.Set and letter.Text. -/
namespace Go.Proofs.YtdbpdanocpfboabGreatDoor
open Go.RowKit

set_option maxRecDepth 100000 in
set_option maxHeartbeats 1000000 in
theorem nameC84 (w : World) (c : Nat) (hc : c < 256) : Calls Tryz.prog 84 #[.int .u8 (c : Int)] w fun e w' => Kept (fun _ => False) w w' ∧ e = .returned (.bool (nameC c)) := by
  by_cases c1 : 97 ≤ c
  · by_cases c2 : c ≤ 122
    · have HE : Hid (nameC c = true) := by simp [Hid, nameC, c1, c2]
      have d1 : (97 : Int) ≤ (c : Int) := by omega
      have d2 : (c : Int) ≤ 122 := by omega
      go_enter Tryz.func84, Tryz.ntmps84
      go_wp2
      go_ret
      exact ⟨Kept.refl _ _, ret_bool HE.out.symm⟩
    · have HE : Hid (nameC c = false) := by simp [Hid, nameC, c2]; omega
      have d1 : (97 : Int) ≤ (c : Int) := by omega
      have d2 : ¬ (c : Int) ≤ 122 := by omega
      have d3 : (48 : Int) ≤ (c : Int) := by omega
      have d4 : ¬ (c : Int) ≤ 57 := by omega
      go_enter Tryz.func84, Tryz.ntmps84
      go_wp2
      go_ret
      exact ⟨Kept.refl _ _, ret_bool HE.out.symm⟩
  · have d1 : ¬ (97 : Int) ≤ (c : Int) := by omega
    by_cases c3 : 48 ≤ c
    · by_cases c4 : c ≤ 57
      · have HE : Hid (nameC c = true) := by simp [Hid, nameC, c3, c4]
        have d3 : (48 : Int) ≤ (c : Int) := by omega
        have d4 : (c : Int) ≤ 57 := by omega
        go_enter Tryz.func84, Tryz.ntmps84
        go_wp2
        go_ret
        exact ⟨Kept.refl _ _, ret_bool HE.out.symm⟩
      · have HE : Hid (nameC c = false) := by simp [Hid, nameC, c1, c4]
        have d3 : (48 : Int) ≤ (c : Int) := by omega
        have d4 : ¬ (c : Int) ≤ 57 := by omega
        go_enter Tryz.func84, Tryz.ntmps84
        go_wp2
        go_ret
        exact ⟨Kept.refl _ _, ret_bool HE.out.symm⟩
    · have HE : Hid (nameC c = false) := by simp [Hid, nameC, c1, c3]
      have d3 : ¬ (48 : Int) ≤ (c : Int) := by omega
      go_enter Tryz.func84, Tryz.ntmps84
      go_wp2
      go_ret
      exact ⟨Kept.refl _ _, ret_bool HE.out.symm⟩

theorem alloc_blk' (w : World) (o : Obj) : (w.alloc o).heap[w.heap.size]? = some o := (MapKept.heap_alloc w o).1
theorem blk_cell' {w : World} {M : Nat} {cs : Array Value} {t : TypeId} {f : Nat × Nat} (h : w.heap[M]? = some (.cells cs t f)) (i : Nat) : w.cell? ⟨M, i, none⟩ = cs[i]? := by
  simp [World.cell?, h]
def byteV (s : ByteArray) : List Value := (List.range s.size).map (fun i => Value.int .u8 (byteN s i : Int))
theorem byteV_len (s : ByteArray) : (byteV s).length = s.size := by simp [byteV]
theorem bytes_of (w : World) (s : ByteArray) (hs : s.size ≤ 17592186044416) : ∃ cap W1, (convert 9 87 (.string s)).run Tryz.prog w = .ok (.slice (some ⟨w.heap.size, 0, none⟩) s.size cap) W1 ∧ Kept (fun _ => False) w W1 ∧ LsV W1.heap.size W1 (.slice (some ⟨w.heap.size, 0, none⟩) s.size cap) (byteV s) := by
  refine ⟨_, _, run_bytes_of_string w 9 87 5 s Tryz.underlying9 Tryz.underlying87 Tryz.underlying5, (Kept.refl _ _).drew.alloc _, _, _, by rw [byteV_len], ?_, by rw [byteV_len]; exact hs, fun i x hx => ⟨w.heap.size, 0, rfl, ?_, ?_⟩⟩
  · rw [byteV_len]
    exact grownCap_ge _ _ _ _
  · simp
  · have hi : i < s.size := by rw [← byteV_len s]; exact (List.getElem?_eq_some_iff.1 hx).1
    have hx' : x = Value.int .u8 (byteN s i : Int) := by
      simp only [byteV, List.getElem?_map, List.getElem?_range hi, Option.map_some, Option.some.injEq] at hx
      exact hx.symm
    subst hx'
    rw [Nat.zero_add]
    refine (blk_cell' (alloc_blk' _ _) i).trans ?_
    rw [bytesRow_at s _ i hi, byteN_get hi]
    rfl

set_option maxRecDepth 100000 in
set_option maxHeartbeats 1000000 in
theorem isName61 (w : World) (s : ByteArray) (hs : s.size ≤ 9223372036854775807) : Calls Tryz.prog 61 #[.string s] w fun e w' => Kept (fun _ => False) w w' ∧ e = .returned (.bool (nameB s)) := by
  by_cases h1 : 0 < s.size
  · by_cases h2 : s.size ≤ 6
    · have h1i : (0 : Int) < (s.size : Int) := by omega
      have h2i : (s.size : Int) ≤ 6 := by omega
      obtain ⟨cap, W1, hcv, k1, hl1⟩ := bytes_of w s (by omega)
      have HL : Hid (LsV W1.heap.size W1 (.slice (some ⟨w.heap.size, 0, none⟩) s.size cap) (byteV s)) := hl1
      have HPR : Hid (∀ (i : Nat) (h : i < (byteV s).length), PredK 84 #[] W1 (byteV s)[i] (nameC (byteN s i))) := by
        intro i hi W hk
        have := nameC84 W (byteN s i) (byteN_lt s i)
        simpa [byteV] using this
      have HE : Hid (((List.range (byteV s).length).all fun i => nameC (byteN s i)) = nameB s) := by
        rw [Hid, byteV_len, nameB, decide_eq_true (show 1 ≤ s.size by omega), decide_eq_true h2]
        simp
      clear hl1
      go_enter Tryz.func61, Tryz.ntmps61
      go_wp2_with (go_at_call 83; go_must (refine (every83 84 #[] (enters_of Tryz.func84 (by kernel_rfl) rfl) W1 W1.heap.size _ (byteV s) (fun i => nameC (byteN s i)) HL.out (Nat.le_refl _) HPR.out).mono ?_); rintro e w2 ⟨k2, rfl⟩)
      go_ret
      exact ⟨k1.trans k2 (fun _ _ f => f), ret_bool HE.out⟩
    · have HE : Hid (nameB s = false) := by simp [Hid, nameB]; omega
      have h1i : (0 : Int) < (s.size : Int) := by omega
      have h2i : ¬ (s.size : Int) ≤ 6 := by omega
      go_enter Tryz.func61, Tryz.ntmps61
      go_wp2
      go_ret
      exact ⟨Kept.refl _ _, ret_bool HE.out.symm⟩
  · have HE : Hid (nameB s = false) := by simp [Hid, nameB]; omega
    have h1i : ¬ (0 : Int) < (s.size : Int) := by omega
    go_enter Tryz.func61, Tryz.ntmps61
    go_wp2
    go_ret
    exact ⟨Kept.refl _ _, ret_bool HE.out.symm⟩

/-- what letter.Set answers -/
def setP (s : ByteArray) : Int × Bool := if s = dash then (0, true) else match setN s s.size with
  | some n => ((n : Int), decide (n ≠ 0))
  | none => (0, false)
theorem setP_bad {s : ByteArray} {k : Nat} (hd : s ≠ dash) (hk : k ≤ s.size) (h : setN s k = none) : setP s = (0, false) := by rw [setP, if_neg hd, setN_none h hk]
theorem or_add (n c : Nat) (hc : c < 8) (hn : n < 2 ^ c) : bits BinOp.or IntKind.i64 (n : Int) ((2 ^ c : Nat) : Int) = ((n + 2 ^ c : Nat) : Int) := by
  have h1 : (2 : Nat) ^ c ≤ 2 ^ 7 := Nat.pow_le_pow_right (by decide) (by omega)
  have h := bits_nat .i64 9 (by decide) (fun n h0 h1 => by rw [IntKind.wrap_i64]; omega) n (2 ^ c) (by omega) (by omega)
  have h2 : n ||| 2 ^ c = n + 2 ^ c := by
    have h := Nat.two_pow_add_eq_or_of_lt hn 1
    rw [Nat.mul_one] at h
    rw [Nat.or_comm, ← h, Nat.add_comm]
  rw [h.2, h2]

set_option maxRecDepth 100000 in
set_option maxHeartbeats 4000000 in
theorem set52 (w : World) (s : ByteArray) (hs : s.size ≤ 17592186044416) : Calls Tryz.prog 52 #[.string s] w fun e w' => Kept (fun _ => False) w w' ∧ e = .returned (.tuple #[.int .i64 (setP s).1, .bool (setP s).2]) := by
  by_cases hd : s = dash
  · subst hd
    have HE : Hid (setP dash = (0, true)) := by simp [Hid, setP]
    unfold dash
    go_enter Tryz.func52, Tryz.ntmps52
    go_wp2
    refine bodyPost_ret (v := .tuple #[.int .i64 0, .bool true]) (by simp [results, Tryz.results52, go_sem]) rfl ⟨Kept.refl _ _, ?_⟩
    have := HE.out
    unfold dash at this
    rw [this]
  · have hd' : (s.toList == [45]) = false := by
      have := beq_txt s dash
      rw [show dash.toList = [45] by rw [ByteArray.toList_eq]; rfl] at this
      rw [this]
      simpa using hd
    have HD : Hid (s ≠ dash) := hd
    clear hd
    obtain ⟨cap, W1, hcv, k1, hl1⟩ := bytes_of w s hs
    have HC : Hid (∀ W, Kept (fun _ => False) W1 W → ∀ i, i < s.size → W.cell? ⟨w.heap.size, i, none⟩ = some (.int .u8 (byteN s i : Int))) := by
      intro W hk i hi
      obtain ⟨b', o', e, _, h⟩ := (hl1.kept hk (Nat.le_refl _)).cell (i := i) (x := .int .u8 (byteN s i : Int)) (by simp [byteV, hi])
      cases e
      simpa using h
    have HK1 : Hid (Kept (fun _ => False) w W1) := k1
    clear hl1 k1
    go_enter Tryz.func52, Tryz.ntmps52
    go_wp2
    go_loopw [4, 13] (fun n iv wr => ∃ (k m : Nat), k ≤ s.size ∧ iv = .int .i64 k ∧ n = .int .i64 m ∧ setN s k = some m ∧ Kept (fun _ => False) W1 wr) (fun _ iv _ => s.size - (intOf iv).toNat)
    case atStart => exact ⟨0, 0, Nat.zero_le _, rfl, rfl, rfl, Kept.refl _ _⟩
    case round =>
      obtain ⟨k, m, hk, rfl, rfl, hm, hkr⟩ := hrel
      have HM : Hid (setN s k = some m) := hm
      have hm2 := setN_lt hm
      have HKr : Hid (Kept (fun _ => False) w wr) := HK1.out.trans hkr (fun _ _ f => f)
      clear hm
      by_cases hlt : k < s.size
      · have hki : (k : Int) < (s.size : Int) := by omega
        have hck := HC.out wr hkr k hlt
        have hb2 := byteN_lt s k
        have HST : Hid (setN s (k + 1) = setStep (some m) (byteN s k)) := by rw [Hid, setN, HM.out]
        have HNO : Hid (setStep (some m) (byteN s k) = none → setP s = (0, false)) := fun h => setP_bad HD.out (show k + 1 ≤ s.size by omega) (by rw [HST.out, h])
        by_cases c1 : byteN s k < 97
        · have d1 : (byteN s k : Int) < 97 := by omega
          have HE : Hid (setP s = (0, false)) := HNO.out (by rw [setStep, if_neg (by omega)])
          go_wp2
          refine bodyPost_ret (v := .tuple #[.int .i64 0, .bool false]) (by simp [results, Tryz.results52, go_sem]) rfl ⟨HKr.out, by rw [HE.out]⟩
        · by_cases c2 : 104 < byteN s k
          · have d1 : ¬ (byteN s k : Int) < 97 := by omega
            have d2 : (104 : Int) < (byteN s k : Int) := by omega
            have HE : Hid (setP s = (0, false)) := HNO.out (by rw [setStep, if_neg (by omega)])
            go_wp2
            refine bodyPost_ret (v := .tuple #[.int .i64 0, .bool false]) (by simp [results, Tryz.results52, go_sem]) rfl ⟨HKr.out, by rw [HE.out]⟩
          · obtain ⟨c, hc8, hc⟩ : ∃ c, c < 8 ∧ byteN s k = c + 97 := ⟨byteN s k - 97, by omega, by omega⟩
            have hcc : (c = 0 ∧ (byteN s k : Int) = 97) ∨ (c = 1 ∧ (byteN s k : Int) = 98) ∨ (c = 2 ∧ (byteN s k : Int) = 99) ∨ (c = 3 ∧ (byteN s k : Int) = 100) ∨ (c = 4 ∧ (byteN s k : Int) = 101) ∨ (c = 5 ∧ (byteN s k : Int) = 102) ∨ (c = 6 ∧ (byteN s k : Int) = 103) ∨ (c = 7 ∧ (byteN s k : Int) = 104) := by omega
            by_cases hmc : m < 2 ^ c
            · have HS : Hid (setN s (k + 1) = some (m + 2 ^ c)) := by rw [Hid, HST.out, setStep, if_pos ⟨by omega, by omega, by rw [show byteN s k - 97 = c by omega]; exact hmc⟩, show byteN s k - 97 = c by omega]
              clear hc hc8 c1 c2 hb2
              rcases hcc with ⟨rfl, hce⟩ | ⟨rfl, hce⟩ | ⟨rfl, hce⟩ | ⟨rfl, hce⟩ | ⟨rfl, hce⟩ | ⟨rfl, hce⟩ | ⟨rfl, hce⟩ | ⟨rfl, hce⟩
              · have hor : bits BinOp.or IntKind.i64 (m : Int) 1 = ((m + 2 ^ 0 : Nat) : Int) := or_add m 0 (by omega) hmc
                have hle : ¬ (1 : Int) ≤ (m : Int) := by omega
                go_wp2
                go_roundw
                case rel => exact ⟨k + 1, m + 2 ^ 0, by omega, by simp, by simp, HS.out, hkr⟩
                case measure => simp [intOf]; omega
              · have hor : bits BinOp.or IntKind.i64 (m : Int) 2 = ((m + 2 ^ 1 : Nat) : Int) := or_add m 1 (by omega) hmc
                have hle : ¬ (2 : Int) ≤ (m : Int) := by omega
                go_wp2
                go_roundw
                case rel => exact ⟨k + 1, m + 2 ^ 1, by omega, by simp, by simp, HS.out, hkr⟩
                case measure => simp [intOf]; omega
              · have hor : bits BinOp.or IntKind.i64 (m : Int) 4 = ((m + 2 ^ 2 : Nat) : Int) := or_add m 2 (by omega) hmc
                have hle : ¬ (4 : Int) ≤ (m : Int) := by omega
                go_wp2
                go_roundw
                case rel => exact ⟨k + 1, m + 2 ^ 2, by omega, by simp, by simp, HS.out, hkr⟩
                case measure => simp [intOf]; omega
              · have hor : bits BinOp.or IntKind.i64 (m : Int) 8 = ((m + 2 ^ 3 : Nat) : Int) := or_add m 3 (by omega) hmc
                have hle : ¬ (8 : Int) ≤ (m : Int) := by omega
                go_wp2
                go_roundw
                case rel => exact ⟨k + 1, m + 2 ^ 3, by omega, by simp, by simp, HS.out, hkr⟩
                case measure => simp [intOf]; omega
              · have hor : bits BinOp.or IntKind.i64 (m : Int) 16 = ((m + 2 ^ 4 : Nat) : Int) := or_add m 4 (by omega) hmc
                have hle : ¬ (16 : Int) ≤ (m : Int) := by omega
                go_wp2
                go_roundw
                case rel => exact ⟨k + 1, m + 2 ^ 4, by omega, by simp, by simp, HS.out, hkr⟩
                case measure => simp [intOf]; omega
              · have hor : bits BinOp.or IntKind.i64 (m : Int) 32 = ((m + 2 ^ 5 : Nat) : Int) := or_add m 5 (by omega) hmc
                have hle : ¬ (32 : Int) ≤ (m : Int) := by omega
                go_wp2
                go_roundw
                case rel => exact ⟨k + 1, m + 2 ^ 5, by omega, by simp, by simp, HS.out, hkr⟩
                case measure => simp [intOf]; omega
              · have hor : bits BinOp.or IntKind.i64 (m : Int) 64 = ((m + 2 ^ 6 : Nat) : Int) := or_add m 6 (by omega) hmc
                have hle : ¬ (64 : Int) ≤ (m : Int) := by omega
                go_wp2
                go_roundw
                case rel => exact ⟨k + 1, m + 2 ^ 6, by omega, by simp, by simp, HS.out, hkr⟩
                case measure => simp [intOf]; omega
              · have hor : bits BinOp.or IntKind.i64 (m : Int) 128 = ((m + 2 ^ 7 : Nat) : Int) := or_add m 7 (by omega) hmc
                have hle : ¬ (128 : Int) ≤ (m : Int) := by omega
                go_wp2
                go_roundw
                case rel => exact ⟨k + 1, m + 2 ^ 7, by omega, by simp, by simp, HS.out, hkr⟩
                case measure => simp [intOf]; omega
            · have HE : Hid (setP s = (0, false)) := HNO.out (by rw [setStep, if_neg (by rw [show byteN s k - 97 = c by omega]; omega)])
              clear hc hc8 c1 c2 hb2
              rcases hcc with ⟨rfl, hce⟩ | ⟨rfl, hce⟩ | ⟨rfl, hce⟩ | ⟨rfl, hce⟩ | ⟨rfl, hce⟩ | ⟨rfl, hce⟩ | ⟨rfl, hce⟩ | ⟨rfl, hce⟩
              · have hle : (1 : Int) ≤ (m : Int) := by omega
                go_wp2
                refine bodyPost_ret (v := .tuple #[.int .i64 0, .bool false]) (by simp [results, Tryz.results52, go_sem]) rfl ⟨HKr.out, by rw [HE.out]⟩
              · have hle : (2 : Int) ≤ (m : Int) := by omega
                go_wp2
                refine bodyPost_ret (v := .tuple #[.int .i64 0, .bool false]) (by simp [results, Tryz.results52, go_sem]) rfl ⟨HKr.out, by rw [HE.out]⟩
              · have hle : (4 : Int) ≤ (m : Int) := by omega
                go_wp2
                refine bodyPost_ret (v := .tuple #[.int .i64 0, .bool false]) (by simp [results, Tryz.results52, go_sem]) rfl ⟨HKr.out, by rw [HE.out]⟩
              · have hle : (8 : Int) ≤ (m : Int) := by omega
                go_wp2
                refine bodyPost_ret (v := .tuple #[.int .i64 0, .bool false]) (by simp [results, Tryz.results52, go_sem]) rfl ⟨HKr.out, by rw [HE.out]⟩
              · have hle : (16 : Int) ≤ (m : Int) := by omega
                go_wp2
                refine bodyPost_ret (v := .tuple #[.int .i64 0, .bool false]) (by simp [results, Tryz.results52, go_sem]) rfl ⟨HKr.out, by rw [HE.out]⟩
              · have hle : (32 : Int) ≤ (m : Int) := by omega
                go_wp2
                refine bodyPost_ret (v := .tuple #[.int .i64 0, .bool false]) (by simp [results, Tryz.results52, go_sem]) rfl ⟨HKr.out, by rw [HE.out]⟩
              · have hle : (64 : Int) ≤ (m : Int) := by omega
                go_wp2
                refine bodyPost_ret (v := .tuple #[.int .i64 0, .bool false]) (by simp [results, Tryz.results52, go_sem]) rfl ⟨HKr.out, by rw [HE.out]⟩
              · have hle : (128 : Int) ≤ (m : Int) := by omega
                go_wp2
                refine bodyPost_ret (v := .tuple #[.int .i64 0, .bool false]) (by simp [results, Tryz.results52, go_sem]) rfl ⟨HKr.out, by rw [HE.out]⟩
      · obtain rfl : k = s.size := by omega
        have HE : Hid (setP s = ((m : Int), decide (m ≠ 0))) := by rw [Hid, setP, if_neg HD.out, HM.out]
        have hnz : ((m : Int) != 0) = decide (m ≠ 0) := by
          by_cases h : m = 0
          · subst h; rfl
          · simp [h]
        go_wp2
        refine bodyPost_ret (v := .tuple #[.int .i64 (m : Int), .bool (decide (m ≠ 0))]) (by simp [results, Tryz.results52, go_sem]) rfl ⟨HKr.out, by rw [HE.out]⟩
end Go.Proofs.YtdbpdanocpfboabGreatDoor
