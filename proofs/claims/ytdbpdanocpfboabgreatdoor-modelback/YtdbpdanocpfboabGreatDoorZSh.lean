import Derived.Test.YtdbpdanocpfboabGreatDoorZBun04
/- Letters, written: the document's shown. -/
namespace Go.Proofs.YtdbpdanocpfboabGreatDoor
open Go.RowKit

def bitsL (x : Nat) : Nat → List UInt8
  | 0 => []
  | k + 1 => if x / 2 ^ k % 2 = 1 then bitsL x k ++ [(97 + k).toUInt8] else bitsL x k
theorem bits_yes {x k : Nat} (h : x / 2 ^ k % 2 = 1) : bitsL x (k + 1) = bitsL x k ++ [(97 + k).toUInt8] := by rw [bitsL, if_pos h]
theorem bits_no {x k : Nat} (h : ¬ x / 2 ^ k % 2 = 1) : bitsL x (k + 1) = bitsL x k := by rw [bitsL, if_neg h]
theorem bitsL_len (x : Nat) : ∀ k, (bitsL x k).length ≤ k
  | 0 => by simp [bitsL]
  | k + 1 => by
    have := bitsL_len x k
    unfold bitsL
    split
    · simp; omega
    · omega
def shownB (x : Nat) : ByteArray := if x = 0 then dash else ⟨(bitsL x 8).toArray⟩
theorem app_one (l : List UInt8) (c : UInt8) : (⟨l.toArray⟩ : ByteArray) ++ ⟨#[c]⟩ = ⟨(l ++ [c]).toArray⟩ := by
  apply ByteArray.ext
  simp

theorem and_one (y : Nat) (hy : y < 256) : bits BinOp.and IntKind.i64 (y : Int) 1 = ((y % 2 : Nat) : Int) := by
  have := bits_mask .i64 8 (by decide) (fun n h0 h1 => by rw [IntKind.wrap_i64]; omega) 1 (by decide) (y : Int) (by omega) (by omega)
  simpa using this
theorem conv_one (w : World) (c : UInt8) : (convert 87 9 (.slice (some ⟨w.heap.size, 0, none⟩) 1 1)).run Tryz.prog (w.alloc (.cells #[.int .u8 (c.toNat : Int)] 5)) = .ok (.string ⟨#[c]⟩) (w.alloc (.cells #[.int .u8 (c.toNat : Int)] 5)) := by
  refine run_convert_bytes_back (P := Tryz.prog) _ 87 9 5 ⟨w.heap.size, 0, none⟩ 1 [c] Tryz.underlying87 Tryz.underlying5 Tryz.underlying9 (fun j hj => ?_)
  obtain rfl : j = 0 := by simpa using hj
  simp [Addr.add]

set_option maxRecDepth 100000 in
set_option maxHeartbeats 4000000 in
theorem shown68 (w : World) (x : Nat) (hx : x ≤ 255) : Calls Tryz.prog 68 #[.int .i64 (x : Int)] w fun e w' => e = .returned (.string (shownB x)) ∧ Kept (fun _ => False) w w' := by
  by_cases h0 : x = 0
  · subst h0
    go_enter Tryz.func68, Tryz.ntmps68
    go_wp2
    go_ret
    exact ⟨rfl, Kept.refl _ _⟩
  · have h0b : ((x : Int) == 0) = false := beq_eq_false_iff_ne.2 (by omega)
    have HS : Hid (shownB x = ⟨(bitsL x 8).toArray⟩) := by rw [Hid, shownB, if_neg h0]
    clear h0
    go_enter Tryz.func68, Tryz.ntmps68
    go_wp2
    go_loopw [3, 4] (fun sv iv wr => ∃ k : Nat, k ≤ 8 ∧ iv = .int .i64 k ∧ sv = .string ⟨(bitsL x k).toArray⟩ ∧ Kept (fun _ => False) w wr) (fun _ iv _ => 8 - (intOf iv).toNat)
    case atStart => exact ⟨0, by omega, rfl, rfl, Kept.refl _ _⟩
    case round =>
      obtain ⟨k, hk, rfl, rfl, hkr⟩ := hrel
      by_cases hlt : k < 8
      · have hcc : k = 0 ∨ k = 1 ∨ k = 2 ∨ k = 3 ∨ k = 4 ∨ k = 5 ∨ k = 6 ∨ k = 7 := by omega
        rcases hcc with rfl | rfl | rfl | rfl | rfl | rfl | rfl | rfl
        · have hcv : (convert 87 9 (.slice (some ⟨wr.heap.size, 0, none⟩) 1 1)).run Tryz.prog (wr.alloc (.cells #[.int .u8 97] 5)) = .ok (.string ⟨#[97]⟩) (wr.alloc (.cells #[.int .u8 97] 5)) := conv_one wr 97
          have hbl := bitsL_len x 0
          have hY : (x : Int) = ((x / 2 ^ 0 : Nat) : Int) := by simp
          by_cases hb : x / 2 ^ 0 % 2 = 1
          · have hbb : (bits BinOp.and IntKind.i64 (x : Int) 1 == 1) = true := by rw [hY, and_one _ (Nat.lt_of_le_of_lt (Nat.div_le_self _ _) (by omega)), hb]; rfl
            clear hY
            go_wp2
            go_roundw
            case rel => exact ⟨1, by omega, by simp, by rw [bits_yes (k := 0) hb, ← app_one]; rfl, hkr.alloc _⟩
            case measure => simp [intOf]
          · have hbb : (bits BinOp.and IntKind.i64 (x : Int) 1 == 1) = false := by
              rw [hY, and_one _ (Nat.lt_of_le_of_lt (Nat.div_le_self _ _) (by omega))]
              exact beq_eq_false_iff_ne.2 (by omega)
            clear hY
            go_wp2
            go_roundw
            case rel => exact ⟨1, by omega, by simp, by rw [bits_no (k := 0) hb], hkr⟩
            case measure => simp [intOf]
        · have hcv : (convert 87 9 (.slice (some ⟨wr.heap.size, 0, none⟩) 1 1)).run Tryz.prog (wr.alloc (.cells #[.int .u8 98] 5)) = .ok (.string ⟨#[98]⟩) (wr.alloc (.cells #[.int .u8 98] 5)) := conv_one wr 98
          have hbl := bitsL_len x 1
          have hY : ((x : Int) / 2) = ((x / 2 ^ 1 : Nat) : Int) := by simp
          by_cases hb : x / 2 ^ 1 % 2 = 1
          · have hbb : (bits BinOp.and IntKind.i64 ((x : Int) / 2) 1 == 1) = true := by rw [hY, and_one _ (Nat.lt_of_le_of_lt (Nat.div_le_self _ _) (by omega)), hb]; rfl
            clear hY
            go_wp2
            go_roundw
            case rel => exact ⟨2, by omega, by simp, by rw [bits_yes (k := 1) hb, ← app_one]; rfl, hkr.alloc _⟩
            case measure => simp [intOf]
          · have hbb : (bits BinOp.and IntKind.i64 ((x : Int) / 2) 1 == 1) = false := by
              rw [hY, and_one _ (Nat.lt_of_le_of_lt (Nat.div_le_self _ _) (by omega))]
              exact beq_eq_false_iff_ne.2 (by omega)
            clear hY
            go_wp2
            go_roundw
            case rel => exact ⟨2, by omega, by simp, by rw [bits_no (k := 1) hb], hkr⟩
            case measure => simp [intOf]
        · have hcv : (convert 87 9 (.slice (some ⟨wr.heap.size, 0, none⟩) 1 1)).run Tryz.prog (wr.alloc (.cells #[.int .u8 99] 5)) = .ok (.string ⟨#[99]⟩) (wr.alloc (.cells #[.int .u8 99] 5)) := conv_one wr 99
          have hbl := bitsL_len x 2
          have hY : ((x : Int) / 4) = ((x / 2 ^ 2 : Nat) : Int) := by simp
          by_cases hb : x / 2 ^ 2 % 2 = 1
          · have hbb : (bits BinOp.and IntKind.i64 ((x : Int) / 4) 1 == 1) = true := by rw [hY, and_one _ (Nat.lt_of_le_of_lt (Nat.div_le_self _ _) (by omega)), hb]; rfl
            clear hY
            go_wp2
            go_roundw
            case rel => exact ⟨3, by omega, by simp, by rw [bits_yes (k := 2) hb, ← app_one]; rfl, hkr.alloc _⟩
            case measure => simp [intOf]
          · have hbb : (bits BinOp.and IntKind.i64 ((x : Int) / 4) 1 == 1) = false := by
              rw [hY, and_one _ (Nat.lt_of_le_of_lt (Nat.div_le_self _ _) (by omega))]
              exact beq_eq_false_iff_ne.2 (by omega)
            clear hY
            go_wp2
            go_roundw
            case rel => exact ⟨3, by omega, by simp, by rw [bits_no (k := 2) hb], hkr⟩
            case measure => simp [intOf]
        · have hcv : (convert 87 9 (.slice (some ⟨wr.heap.size, 0, none⟩) 1 1)).run Tryz.prog (wr.alloc (.cells #[.int .u8 100] 5)) = .ok (.string ⟨#[100]⟩) (wr.alloc (.cells #[.int .u8 100] 5)) := conv_one wr 100
          have hbl := bitsL_len x 3
          have hY : ((x : Int) / 8) = ((x / 2 ^ 3 : Nat) : Int) := by simp
          by_cases hb : x / 2 ^ 3 % 2 = 1
          · have hbb : (bits BinOp.and IntKind.i64 ((x : Int) / 8) 1 == 1) = true := by rw [hY, and_one _ (Nat.lt_of_le_of_lt (Nat.div_le_self _ _) (by omega)), hb]; rfl
            clear hY
            go_wp2
            go_roundw
            case rel => exact ⟨4, by omega, by simp, by rw [bits_yes (k := 3) hb, ← app_one]; rfl, hkr.alloc _⟩
            case measure => simp [intOf]
          · have hbb : (bits BinOp.and IntKind.i64 ((x : Int) / 8) 1 == 1) = false := by
              rw [hY, and_one _ (Nat.lt_of_le_of_lt (Nat.div_le_self _ _) (by omega))]
              exact beq_eq_false_iff_ne.2 (by omega)
            clear hY
            go_wp2
            go_roundw
            case rel => exact ⟨4, by omega, by simp, by rw [bits_no (k := 3) hb], hkr⟩
            case measure => simp [intOf]
        · have hcv : (convert 87 9 (.slice (some ⟨wr.heap.size, 0, none⟩) 1 1)).run Tryz.prog (wr.alloc (.cells #[.int .u8 101] 5)) = .ok (.string ⟨#[101]⟩) (wr.alloc (.cells #[.int .u8 101] 5)) := conv_one wr 101
          have hbl := bitsL_len x 4
          have hY : ((x : Int) / 16) = ((x / 2 ^ 4 : Nat) : Int) := by simp
          by_cases hb : x / 2 ^ 4 % 2 = 1
          · have hbb : (bits BinOp.and IntKind.i64 ((x : Int) / 16) 1 == 1) = true := by rw [hY, and_one _ (Nat.lt_of_le_of_lt (Nat.div_le_self _ _) (by omega)), hb]; rfl
            clear hY
            go_wp2
            go_roundw
            case rel => exact ⟨5, by omega, by simp, by rw [bits_yes (k := 4) hb, ← app_one]; rfl, hkr.alloc _⟩
            case measure => simp [intOf]
          · have hbb : (bits BinOp.and IntKind.i64 ((x : Int) / 16) 1 == 1) = false := by
              rw [hY, and_one _ (Nat.lt_of_le_of_lt (Nat.div_le_self _ _) (by omega))]
              exact beq_eq_false_iff_ne.2 (by omega)
            clear hY
            go_wp2
            go_roundw
            case rel => exact ⟨5, by omega, by simp, by rw [bits_no (k := 4) hb], hkr⟩
            case measure => simp [intOf]
        · have hcv : (convert 87 9 (.slice (some ⟨wr.heap.size, 0, none⟩) 1 1)).run Tryz.prog (wr.alloc (.cells #[.int .u8 102] 5)) = .ok (.string ⟨#[102]⟩) (wr.alloc (.cells #[.int .u8 102] 5)) := conv_one wr 102
          have hbl := bitsL_len x 5
          have hY : ((x : Int) / 32) = ((x / 2 ^ 5 : Nat) : Int) := by simp
          by_cases hb : x / 2 ^ 5 % 2 = 1
          · have hbb : (bits BinOp.and IntKind.i64 ((x : Int) / 32) 1 == 1) = true := by rw [hY, and_one _ (Nat.lt_of_le_of_lt (Nat.div_le_self _ _) (by omega)), hb]; rfl
            clear hY
            go_wp2
            go_roundw
            case rel => exact ⟨6, by omega, by simp, by rw [bits_yes (k := 5) hb, ← app_one]; rfl, hkr.alloc _⟩
            case measure => simp [intOf]
          · have hbb : (bits BinOp.and IntKind.i64 ((x : Int) / 32) 1 == 1) = false := by
              rw [hY, and_one _ (Nat.lt_of_le_of_lt (Nat.div_le_self _ _) (by omega))]
              exact beq_eq_false_iff_ne.2 (by omega)
            clear hY
            go_wp2
            go_roundw
            case rel => exact ⟨6, by omega, by simp, by rw [bits_no (k := 5) hb], hkr⟩
            case measure => simp [intOf]
        · have hcv : (convert 87 9 (.slice (some ⟨wr.heap.size, 0, none⟩) 1 1)).run Tryz.prog (wr.alloc (.cells #[.int .u8 103] 5)) = .ok (.string ⟨#[103]⟩) (wr.alloc (.cells #[.int .u8 103] 5)) := conv_one wr 103
          have hbl := bitsL_len x 6
          have hY : ((x : Int) / 64) = ((x / 2 ^ 6 : Nat) : Int) := by simp
          by_cases hb : x / 2 ^ 6 % 2 = 1
          · have hbb : (bits BinOp.and IntKind.i64 ((x : Int) / 64) 1 == 1) = true := by rw [hY, and_one _ (Nat.lt_of_le_of_lt (Nat.div_le_self _ _) (by omega)), hb]; rfl
            clear hY
            go_wp2
            go_roundw
            case rel => exact ⟨7, by omega, by simp, by rw [bits_yes (k := 6) hb, ← app_one]; rfl, hkr.alloc _⟩
            case measure => simp [intOf]
          · have hbb : (bits BinOp.and IntKind.i64 ((x : Int) / 64) 1 == 1) = false := by
              rw [hY, and_one _ (Nat.lt_of_le_of_lt (Nat.div_le_self _ _) (by omega))]
              exact beq_eq_false_iff_ne.2 (by omega)
            clear hY
            go_wp2
            go_roundw
            case rel => exact ⟨7, by omega, by simp, by rw [bits_no (k := 6) hb], hkr⟩
            case measure => simp [intOf]
        · have hcv : (convert 87 9 (.slice (some ⟨wr.heap.size, 0, none⟩) 1 1)).run Tryz.prog (wr.alloc (.cells #[.int .u8 104] 5)) = .ok (.string ⟨#[104]⟩) (wr.alloc (.cells #[.int .u8 104] 5)) := conv_one wr 104
          have hbl := bitsL_len x 7
          have hY : ((x : Int) / 128) = ((x / 2 ^ 7 : Nat) : Int) := by simp
          by_cases hb : x / 2 ^ 7 % 2 = 1
          · have hbb : (bits BinOp.and IntKind.i64 ((x : Int) / 128) 1 == 1) = true := by rw [hY, and_one _ (Nat.lt_of_le_of_lt (Nat.div_le_self _ _) (by omega)), hb]; rfl
            clear hY
            go_wp2
            go_roundw
            case rel => exact ⟨8, by omega, by simp, by rw [bits_yes (k := 7) hb, ← app_one]; rfl, hkr.alloc _⟩
            case measure => simp [intOf]
          · have hbb : (bits BinOp.and IntKind.i64 ((x : Int) / 128) 1 == 1) = false := by
              rw [hY, and_one _ (Nat.lt_of_le_of_lt (Nat.div_le_self _ _) (by omega))]
              exact beq_eq_false_iff_ne.2 (by omega)
            clear hY
            go_wp2
            go_roundw
            case rel => exact ⟨8, by omega, by simp, by rw [bits_no (k := 7) hb], hkr⟩
            case measure => simp [intOf]
      · obtain rfl : k = 8 := by omega
        go_wp2
        go_ret
        exact ⟨by rw [HS.out]; rfl, hkr⟩
end Go.Proofs.YtdbpdanocpfboabGreatDoor
