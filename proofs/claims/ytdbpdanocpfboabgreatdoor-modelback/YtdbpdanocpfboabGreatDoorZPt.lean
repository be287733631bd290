import Derived.Test.YtdbpdanocpfboabGreatDoorZPn
import Derived.Test.YtdbpdanocpfboabGreatDoorZBun04
import Derived.Laws.BytesArg
/- The program's letter.Text. -/
namespace Go.Proofs.YtdbpdanocpfboabGreatDoor
open Go.RowKit

theorem info5 : (Tryz.prog.info? 5).map (fun i => (i.zero, i.size, i.bytes)) = some (some (.int .u8 0), 1, 1) := by kernel_rfl
def u8V (l : List UInt8) : List Value := l.map (fun b => Value.int .u8 (b.toNat : Int))
theorem own_string {w : World} {base n : Nat} {v : Value} {l : List UInt8} (h : w.ownsRow base 5 1 v n (u8V l)) (hl : l.length ≤ 17592186044416) : ∃ a c, v = .slice a l.length c ∧ (convert 87 9 v).run Tryz.prog w = .ok (.string ⟨l.toArray⟩) w := by
  have hL := own_ls h (by simp [u8V]; exact hl)
  obtain ⟨a, c, rfl, _⟩ := hL.form
  have hlen : (u8V l).length = l.length := by simp [u8V]
  rw [hlen] at *
  refine ⟨a, c, rfl, ?_⟩
  cases a with
  | none =>
    have : l = [] := by
      cases l with
      | nil => rfl
      | cons y r => obtain ⟨_, _, e, _⟩ := hL.cell (i := 0) (x := .int .u8 (y.toNat : Int)) (by simp [u8V]); cases e
    subst this
    exact run_convert_bytes_nil w 87 5 Tryz.underlying87 Tryz.underlying5 0 c 9 Tryz.underlying9
  | some ad =>
    obtain ⟨b, o, s⟩ := ad
    cases l with
    | nil => exact run_convert_bytes_back (P := Tryz.prog) w 87 9 5 ⟨b, o, s⟩ c [] Tryz.underlying87 Tryz.underlying5 Tryz.underlying9 (fun j hj => by simp at hj)
    | cons y r =>
      obtain ⟨b', o', e, _, _⟩ := hL.cell (i := 0) (x := .int .u8 (y.toNat : Int)) (by simp [u8V])
      cases e
      refine run_convert_bytes_back (P := Tryz.prog) w 87 9 5 ⟨b, o, none⟩ c (y :: r) Tryz.underlying87 Tryz.underlying5 Tryz.underlying9 (fun j hj => ?_)
      obtain ⟨b', o', e, _, hc⟩ := hL.cell (i := j) (x := .int .u8 (((y :: r)[j]).toNat : Int)) (by simp only [u8V, List.getElem?_map, List.getElem?_eq_getElem hj, Option.map_some])
      cases e
      rw [show (⟨b, o, none⟩ : Addr).add j = ⟨b, o + j, none⟩ by unfold Addr.add; by_cases h0 : j = 0 <;> simp [h0]]
      exact hc

set_option maxRecDepth 100000 in
set_option maxHeartbeats 4000000 in
theorem text65 (w : World) (x : Nat) (hx : x ≤ 255) : Calls Tryz.prog 65 #[.int .i64 (x : Int)] w fun e w' => Kept (fun _ => False) w w' ∧ e = .returned (.string (shownB x)) := by
  by_cases h0 : x = 0
  · subst h0
    go_enter Tryz.func65, Tryz.ntmps65
    go_wp2
    go_ret
    exact ⟨Kept.refl _ _, rfl⟩
  · have h0b : ((x : Int) == 0) = false := beq_eq_false_iff_ne.2 (by omega)
    have HS : Hid (shownB x = ⟨(bitsL x 8).toArray⟩) := by rw [Hid, shownB, if_neg h0]
    obtain ⟨i5, hi5, hy0, hy1, hy2⟩ := info_parts info5
    clear h0
    go_enter Tryz.func65, Tryz.ntmps65
    go_wp2
    go_loopw [3, 4] (fun sv cv wr => ∃ k : Nat, k ≤ 8 ∧ cv = .int .u8 ((97 + k : Nat) : Int) ∧ wr.ownsRow w.heap.size 5 1 sv (bitsL x k).length (u8V (bitsL x k)) ∧ Kept (fun _ => False) w wr) (fun _ cv _ => 105 - (intOf cv).toNat)
    case atStart => exact ⟨0, by omega, rfl, World.ownsRow_nil _ _ _ _, Kept.refl _ _⟩
    case round =>
      obtain ⟨k, hk, rfl, hrow, hkr⟩ := hrel
      have HRow : Hid (wr.ownsRow w.heap.size 5 1 u3 (bitsL x k).length (u8V (bitsL x k))) := hrow
      have hbl := bitsL_len x k
      have hzr := hkr.size
      clear hrow
      by_cases hlt : k < 8
      · have hcc : k = 0 ∨ k = 1 ∨ k = 2 ∨ k = 3 ∨ k = 4 ∨ k = 5 ∨ k = 6 ∨ k = 7 := by omega
        rcases hcc with rfl | rfl | rfl | rfl | rfl | rfl | rfl | rfl
        · have hY : (x : Int) = ((x / 2 ^ 0 : Nat) : Int) := by simp
          by_cases hb : x / 2 ^ 0 % 2 = 1
          · have hbb : (bits BinOp.and IntKind.i64 (x : Int) 1 == 1) = true := by rw [hY, and_one _ (Nat.lt_of_le_of_lt (Nat.div_le_self _ _) (by omega)), hb]; rfl
            clear hY
            go_wp2_with (at_builtin; go_must (refine wpList_append_own_at _ rfl _ _ 87 rfl w.heap.size 5 i5 _ 1 1 Tryz.underlying87 hi5 hy0 hy1 hy2 rfl (by decide) u3 (bitsL x 0).length _ rfl (World.ownsRow.alloc HRow.out _) ⟨wr.heap.size, 0, none⟩ 1 1 [.int .u8 97] rfl rfl (cell_one_new _ _ _) (by intro y hy; simp at hy; rcases hy with rfl; rfl) (by unfold maxLen; omega) (by omega) (by simp; omega) ?_); intro pv6 w6 hown6 hgrow6 hnil6 hloc6)
            go_roundw
            case rel =>
              have hk6 : Kept (fun b => inRow u3 b) wr w6 := ((Kept.refl _ _).alloc _).grown hgrow6 (fun k _ e => e)
              refine ⟨1, by omega, by simp, ?_, hkr.trans hk6 (fun b hb e => absurd (ownsRow_lt HRow.out e).2 (by omega))⟩
              rw [bits_yes (k := 0) hb]
              have : u8V (bitsL x 0 ++ [(97 + 0).toUInt8]) = u8V (bitsL x 0) ++ [.int .u8 97] := by simp [u8V]
              rw [this, List.length_append]
              exact hown6
            case measure => simp [intOf]
          · have hbb : (bits BinOp.and IntKind.i64 (x : Int) 1 == 1) = false := by
              rw [hY, and_one _ (Nat.lt_of_le_of_lt (Nat.div_le_self _ _) (by omega))]
              exact beq_eq_false_iff_ne.2 (by omega)
            clear hY
            go_wp2
            go_roundw
            case rel => exact ⟨1, by omega, by simp, by rw [bits_no (k := 0) hb]; exact HRow.out, hkr⟩
            case measure => simp [intOf]
        · have hY : ((x : Int) / 2) = ((x / 2 ^ 1 : Nat) : Int) := by simp
          by_cases hb : x / 2 ^ 1 % 2 = 1
          · have hbb : (bits BinOp.and IntKind.i64 ((x : Int) / 2) 1 == 1) = true := by rw [hY, and_one _ (Nat.lt_of_le_of_lt (Nat.div_le_self _ _) (by omega)), hb]; rfl
            clear hY
            go_wp2_with (at_builtin; go_must (refine wpList_append_own_at _ rfl _ _ 87 rfl w.heap.size 5 i5 _ 1 1 Tryz.underlying87 hi5 hy0 hy1 hy2 rfl (by decide) u3 (bitsL x 1).length _ rfl (World.ownsRow.alloc HRow.out _) ⟨wr.heap.size, 0, none⟩ 1 1 [.int .u8 98] rfl rfl (cell_one_new _ _ _) (by intro y hy; simp at hy; rcases hy with rfl; rfl) (by unfold maxLen; omega) (by omega) (by simp; omega) ?_); intro pv6 w6 hown6 hgrow6 hnil6 hloc6)
            go_roundw
            case rel =>
              have hk6 : Kept (fun b => inRow u3 b) wr w6 := ((Kept.refl _ _).alloc _).grown hgrow6 (fun k _ e => e)
              refine ⟨2, by omega, by simp, ?_, hkr.trans hk6 (fun b hb e => absurd (ownsRow_lt HRow.out e).2 (by omega))⟩
              rw [bits_yes (k := 1) hb]
              have : u8V (bitsL x 1 ++ [(97 + 1).toUInt8]) = u8V (bitsL x 1) ++ [.int .u8 98] := by simp [u8V]
              rw [this, List.length_append]
              exact hown6
            case measure => simp [intOf]
          · have hbb : (bits BinOp.and IntKind.i64 ((x : Int) / 2) 1 == 1) = false := by
              rw [hY, and_one _ (Nat.lt_of_le_of_lt (Nat.div_le_self _ _) (by omega))]
              exact beq_eq_false_iff_ne.2 (by omega)
            clear hY
            go_wp2
            go_roundw
            case rel => exact ⟨2, by omega, by simp, by rw [bits_no (k := 1) hb]; exact HRow.out, hkr⟩
            case measure => simp [intOf]
        · have hY : ((x : Int) / 4) = ((x / 2 ^ 2 : Nat) : Int) := by simp
          by_cases hb : x / 2 ^ 2 % 2 = 1
          · have hbb : (bits BinOp.and IntKind.i64 ((x : Int) / 4) 1 == 1) = true := by rw [hY, and_one _ (Nat.lt_of_le_of_lt (Nat.div_le_self _ _) (by omega)), hb]; rfl
            clear hY
            go_wp2_with (at_builtin; go_must (refine wpList_append_own_at _ rfl _ _ 87 rfl w.heap.size 5 i5 _ 1 1 Tryz.underlying87 hi5 hy0 hy1 hy2 rfl (by decide) u3 (bitsL x 2).length _ rfl (World.ownsRow.alloc HRow.out _) ⟨wr.heap.size, 0, none⟩ 1 1 [.int .u8 99] rfl rfl (cell_one_new _ _ _) (by intro y hy; simp at hy; rcases hy with rfl; rfl) (by unfold maxLen; omega) (by omega) (by simp; omega) ?_); intro pv6 w6 hown6 hgrow6 hnil6 hloc6)
            go_roundw
            case rel =>
              have hk6 : Kept (fun b => inRow u3 b) wr w6 := ((Kept.refl _ _).alloc _).grown hgrow6 (fun k _ e => e)
              refine ⟨3, by omega, by simp, ?_, hkr.trans hk6 (fun b hb e => absurd (ownsRow_lt HRow.out e).2 (by omega))⟩
              rw [bits_yes (k := 2) hb]
              have : u8V (bitsL x 2 ++ [(97 + 2).toUInt8]) = u8V (bitsL x 2) ++ [.int .u8 99] := by simp [u8V]
              rw [this, List.length_append]
              exact hown6
            case measure => simp [intOf]
          · have hbb : (bits BinOp.and IntKind.i64 ((x : Int) / 4) 1 == 1) = false := by
              rw [hY, and_one _ (Nat.lt_of_le_of_lt (Nat.div_le_self _ _) (by omega))]
              exact beq_eq_false_iff_ne.2 (by omega)
            clear hY
            go_wp2
            go_roundw
            case rel => exact ⟨3, by omega, by simp, by rw [bits_no (k := 2) hb]; exact HRow.out, hkr⟩
            case measure => simp [intOf]
        · have hY : ((x : Int) / 8) = ((x / 2 ^ 3 : Nat) : Int) := by simp
          by_cases hb : x / 2 ^ 3 % 2 = 1
          · have hbb : (bits BinOp.and IntKind.i64 ((x : Int) / 8) 1 == 1) = true := by rw [hY, and_one _ (Nat.lt_of_le_of_lt (Nat.div_le_self _ _) (by omega)), hb]; rfl
            clear hY
            go_wp2_with (at_builtin; go_must (refine wpList_append_own_at _ rfl _ _ 87 rfl w.heap.size 5 i5 _ 1 1 Tryz.underlying87 hi5 hy0 hy1 hy2 rfl (by decide) u3 (bitsL x 3).length _ rfl (World.ownsRow.alloc HRow.out _) ⟨wr.heap.size, 0, none⟩ 1 1 [.int .u8 100] rfl rfl (cell_one_new _ _ _) (by intro y hy; simp at hy; rcases hy with rfl; rfl) (by unfold maxLen; omega) (by omega) (by simp; omega) ?_); intro pv6 w6 hown6 hgrow6 hnil6 hloc6)
            go_roundw
            case rel =>
              have hk6 : Kept (fun b => inRow u3 b) wr w6 := ((Kept.refl _ _).alloc _).grown hgrow6 (fun k _ e => e)
              refine ⟨4, by omega, by simp, ?_, hkr.trans hk6 (fun b hb e => absurd (ownsRow_lt HRow.out e).2 (by omega))⟩
              rw [bits_yes (k := 3) hb]
              have : u8V (bitsL x 3 ++ [(97 + 3).toUInt8]) = u8V (bitsL x 3) ++ [.int .u8 100] := by simp [u8V]
              rw [this, List.length_append]
              exact hown6
            case measure => simp [intOf]
          · have hbb : (bits BinOp.and IntKind.i64 ((x : Int) / 8) 1 == 1) = false := by
              rw [hY, and_one _ (Nat.lt_of_le_of_lt (Nat.div_le_self _ _) (by omega))]
              exact beq_eq_false_iff_ne.2 (by omega)
            clear hY
            go_wp2
            go_roundw
            case rel => exact ⟨4, by omega, by simp, by rw [bits_no (k := 3) hb]; exact HRow.out, hkr⟩
            case measure => simp [intOf]
        · have hY : ((x : Int) / 16) = ((x / 2 ^ 4 : Nat) : Int) := by simp
          by_cases hb : x / 2 ^ 4 % 2 = 1
          · have hbb : (bits BinOp.and IntKind.i64 ((x : Int) / 16) 1 == 1) = true := by rw [hY, and_one _ (Nat.lt_of_le_of_lt (Nat.div_le_self _ _) (by omega)), hb]; rfl
            clear hY
            go_wp2_with (at_builtin; go_must (refine wpList_append_own_at _ rfl _ _ 87 rfl w.heap.size 5 i5 _ 1 1 Tryz.underlying87 hi5 hy0 hy1 hy2 rfl (by decide) u3 (bitsL x 4).length _ rfl (World.ownsRow.alloc HRow.out _) ⟨wr.heap.size, 0, none⟩ 1 1 [.int .u8 101] rfl rfl (cell_one_new _ _ _) (by intro y hy; simp at hy; rcases hy with rfl; rfl) (by unfold maxLen; omega) (by omega) (by simp; omega) ?_); intro pv6 w6 hown6 hgrow6 hnil6 hloc6)
            go_roundw
            case rel =>
              have hk6 : Kept (fun b => inRow u3 b) wr w6 := ((Kept.refl _ _).alloc _).grown hgrow6 (fun k _ e => e)
              refine ⟨5, by omega, by simp, ?_, hkr.trans hk6 (fun b hb e => absurd (ownsRow_lt HRow.out e).2 (by omega))⟩
              rw [bits_yes (k := 4) hb]
              have : u8V (bitsL x 4 ++ [(97 + 4).toUInt8]) = u8V (bitsL x 4) ++ [.int .u8 101] := by simp [u8V]
              rw [this, List.length_append]
              exact hown6
            case measure => simp [intOf]
          · have hbb : (bits BinOp.and IntKind.i64 ((x : Int) / 16) 1 == 1) = false := by
              rw [hY, and_one _ (Nat.lt_of_le_of_lt (Nat.div_le_self _ _) (by omega))]
              exact beq_eq_false_iff_ne.2 (by omega)
            clear hY
            go_wp2
            go_roundw
            case rel => exact ⟨5, by omega, by simp, by rw [bits_no (k := 4) hb]; exact HRow.out, hkr⟩
            case measure => simp [intOf]
        · have hY : ((x : Int) / 32) = ((x / 2 ^ 5 : Nat) : Int) := by simp
          by_cases hb : x / 2 ^ 5 % 2 = 1
          · have hbb : (bits BinOp.and IntKind.i64 ((x : Int) / 32) 1 == 1) = true := by rw [hY, and_one _ (Nat.lt_of_le_of_lt (Nat.div_le_self _ _) (by omega)), hb]; rfl
            clear hY
            go_wp2_with (at_builtin; go_must (refine wpList_append_own_at _ rfl _ _ 87 rfl w.heap.size 5 i5 _ 1 1 Tryz.underlying87 hi5 hy0 hy1 hy2 rfl (by decide) u3 (bitsL x 5).length _ rfl (World.ownsRow.alloc HRow.out _) ⟨wr.heap.size, 0, none⟩ 1 1 [.int .u8 102] rfl rfl (cell_one_new _ _ _) (by intro y hy; simp at hy; rcases hy with rfl; rfl) (by unfold maxLen; omega) (by omega) (by simp; omega) ?_); intro pv6 w6 hown6 hgrow6 hnil6 hloc6)
            go_roundw
            case rel =>
              have hk6 : Kept (fun b => inRow u3 b) wr w6 := ((Kept.refl _ _).alloc _).grown hgrow6 (fun k _ e => e)
              refine ⟨6, by omega, by simp, ?_, hkr.trans hk6 (fun b hb e => absurd (ownsRow_lt HRow.out e).2 (by omega))⟩
              rw [bits_yes (k := 5) hb]
              have : u8V (bitsL x 5 ++ [(97 + 5).toUInt8]) = u8V (bitsL x 5) ++ [.int .u8 102] := by simp [u8V]
              rw [this, List.length_append]
              exact hown6
            case measure => simp [intOf]
          · have hbb : (bits BinOp.and IntKind.i64 ((x : Int) / 32) 1 == 1) = false := by
              rw [hY, and_one _ (Nat.lt_of_le_of_lt (Nat.div_le_self _ _) (by omega))]
              exact beq_eq_false_iff_ne.2 (by omega)
            clear hY
            go_wp2
            go_roundw
            case rel => exact ⟨6, by omega, by simp, by rw [bits_no (k := 5) hb]; exact HRow.out, hkr⟩
            case measure => simp [intOf]
        · have hY : ((x : Int) / 64) = ((x / 2 ^ 6 : Nat) : Int) := by simp
          by_cases hb : x / 2 ^ 6 % 2 = 1
          · have hbb : (bits BinOp.and IntKind.i64 ((x : Int) / 64) 1 == 1) = true := by rw [hY, and_one _ (Nat.lt_of_le_of_lt (Nat.div_le_self _ _) (by omega)), hb]; rfl
            clear hY
            go_wp2_with (at_builtin; go_must (refine wpList_append_own_at _ rfl _ _ 87 rfl w.heap.size 5 i5 _ 1 1 Tryz.underlying87 hi5 hy0 hy1 hy2 rfl (by decide) u3 (bitsL x 6).length _ rfl (World.ownsRow.alloc HRow.out _) ⟨wr.heap.size, 0, none⟩ 1 1 [.int .u8 103] rfl rfl (cell_one_new _ _ _) (by intro y hy; simp at hy; rcases hy with rfl; rfl) (by unfold maxLen; omega) (by omega) (by simp; omega) ?_); intro pv6 w6 hown6 hgrow6 hnil6 hloc6)
            go_roundw
            case rel =>
              have hk6 : Kept (fun b => inRow u3 b) wr w6 := ((Kept.refl _ _).alloc _).grown hgrow6 (fun k _ e => e)
              refine ⟨7, by omega, by simp, ?_, hkr.trans hk6 (fun b hb e => absurd (ownsRow_lt HRow.out e).2 (by omega))⟩
              rw [bits_yes (k := 6) hb]
              have : u8V (bitsL x 6 ++ [(97 + 6).toUInt8]) = u8V (bitsL x 6) ++ [.int .u8 103] := by simp [u8V]
              rw [this, List.length_append]
              exact hown6
            case measure => simp [intOf]
          · have hbb : (bits BinOp.and IntKind.i64 ((x : Int) / 64) 1 == 1) = false := by
              rw [hY, and_one _ (Nat.lt_of_le_of_lt (Nat.div_le_self _ _) (by omega))]
              exact beq_eq_false_iff_ne.2 (by omega)
            clear hY
            go_wp2
            go_roundw
            case rel => exact ⟨7, by omega, by simp, by rw [bits_no (k := 6) hb]; exact HRow.out, hkr⟩
            case measure => simp [intOf]
        · have hY : ((x : Int) / 128) = ((x / 2 ^ 7 : Nat) : Int) := by simp
          by_cases hb : x / 2 ^ 7 % 2 = 1
          · have hbb : (bits BinOp.and IntKind.i64 ((x : Int) / 128) 1 == 1) = true := by rw [hY, and_one _ (Nat.lt_of_le_of_lt (Nat.div_le_self _ _) (by omega)), hb]; rfl
            clear hY
            go_wp2_with (at_builtin; go_must (refine wpList_append_own_at _ rfl _ _ 87 rfl w.heap.size 5 i5 _ 1 1 Tryz.underlying87 hi5 hy0 hy1 hy2 rfl (by decide) u3 (bitsL x 7).length _ rfl (World.ownsRow.alloc HRow.out _) ⟨wr.heap.size, 0, none⟩ 1 1 [.int .u8 104] rfl rfl (cell_one_new _ _ _) (by intro y hy; simp at hy; rcases hy with rfl; rfl) (by unfold maxLen; omega) (by omega) (by simp; omega) ?_); intro pv6 w6 hown6 hgrow6 hnil6 hloc6)
            go_roundw
            case rel =>
              have hk6 : Kept (fun b => inRow u3 b) wr w6 := ((Kept.refl _ _).alloc _).grown hgrow6 (fun k _ e => e)
              refine ⟨8, by omega, by simp, ?_, hkr.trans hk6 (fun b hb e => absurd (ownsRow_lt HRow.out e).2 (by omega))⟩
              rw [bits_yes (k := 7) hb]
              have : u8V (bitsL x 7 ++ [(97 + 7).toUInt8]) = u8V (bitsL x 7) ++ [.int .u8 104] := by simp [u8V]
              rw [this, List.length_append]
              exact hown6
            case measure => simp [intOf]
          · have hbb : (bits BinOp.and IntKind.i64 ((x : Int) / 128) 1 == 1) = false := by
              rw [hY, and_one _ (Nat.lt_of_le_of_lt (Nat.div_le_self _ _) (by omega))]
              exact beq_eq_false_iff_ne.2 (by omega)
            clear hY
            go_wp2
            go_roundw
            case rel => exact ⟨8, by omega, by simp, by rw [bits_no (k := 7) hb]; exact HRow.out, hkr⟩
            case measure => simp [intOf]
      · obtain rfl : k = 8 := by omega
        obtain ⟨a, c, hu3, hcv⟩ := own_string HRow.out (by omega)
        subst hu3
        go_wp2
        go_ret
        exact ⟨hkr, by rw [HS.out]; rfl⟩
end Go.Proofs.YtdbpdanocpfboabGreatDoor
