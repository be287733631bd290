import Derived.Test.YtdbpdanocpfboabGreatDoorZRl
/- The document's cut and words. -/
namespace Go.Proofs.YtdbpdanocpfboabGreatDoor
open Go.RowKit

def inRow (v : Value) (b : Nat) : Prop := some b = v.ownBlock
theorem info9 : (Tryz.prog.info? 9).map (fun i => (i.zero, i.size, i.bytes)) = some (some (.string ⟨#[]⟩), 1, 16) := by kernel_rfl

/-- cutting a text: where the next piece begins, and the pieces, behind k bytes -/
def cutSt (s : ByteArray) (c : Nat) : Nat → Nat × List ByteArray
  | 0 => (0, [])
  | k + 1 => if k = s.size ∨ byteN s k = c then (k + 1, (cutSt s c k).2 ++ [s.extract (cutSt s c k).1 k]) else cutSt s c k
def cutL (s : ByteArray) (c : Nat) : List ByteArray := (cutSt s c (s.size + 1)).2
theorem cutSt_le (s : ByteArray) (c : Nat) : ∀ k, (cutSt s c k).1 ≤ k ∧ (cutSt s c k).2.length ≤ k
  | 0 => by simp [cutSt]
  | k + 1 => by
    have := cutSt_le s c k
    unfold cutSt
    split
    · simp; omega
    · omega

set_option maxRecDepth 100000 in
set_option maxHeartbeats 2000000 in
theorem cut28 (w : World) (s : ByteArray) (c : Nat) (hs : s.size ≤ 1000) : Calls Tryz.prog 28 #[.string s, .int .u8 (c : Int)] w fun e w' => ∃ v, e = .returned v ∧ w'.ownsRow w.heap.size 9 1 v (cutL s c).length ((cutL s c).map Value.string) ∧ Kept (fun _ => False) w w' := by
  obtain ⟨i0, hi, hz0, hz1, hz2⟩ := info_parts info9
  go_enter Tryz.func28, Tryz.ntmps28
  go_wp2
  go_loopw [5, 6, 7] (fun l fr i wr => ∃ (k : Nat), k ≤ s.size + 1 ∧ i = .int .i64 k ∧ fr = .int .i64 ((cutSt s c k).1 : Int) ∧ wr.ownsRow w.heap.size 9 1 l (cutSt s c k).2.length ((cutSt s c k).2.map Value.string) ∧ Kept (fun _ => False) w wr) (fun _ _ i _ => s.size + 1 - (intOf i).toNat)
  case atStart => exact ⟨0, Nat.zero_le _, rfl, rfl, World.ownsRow_nil _ _ _ _, Kept.refl _ _⟩
  case round =>
    obtain ⟨k, hk, rfl, rfl, hrow, hkr⟩ := hrel
    have hcl := cutSt_le s c k
    by_cases hlt : k ≤ s.size
    · have hki : (k : Int) ≤ (s.size : Int) := by omega
      have hsz := hkr.size
      have HST : Hid (cutSt s c (k + 1) = if k = s.size ∨ byteN s k = c then (k + 1, (cutSt s c k).2 ++ [s.extract (cutSt s c k).1 k]) else cutSt s c k) := by rw [Hid, cutSt]
      generalize hF : (cutSt s c k).1 = f at *
      generalize hL : (cutSt s c k).2 = ls at *
      have HRow : Hid (wr.ownsRow w.heap.size 9 1 u5 ls.length (ls.map Value.string)) := hrow
      by_cases he : k = s.size
      · subst he
        have HS : Hid _ := HST.out.trans (if_pos (.inl rfl))
        have h1 : (f : Int) ≤ (s.size : Int) := by omega
        go_wp2_with (at_builtin; go_must (refine wpList_append_own_at _ rfl _ _ 22 rfl w.heap.size 9 i0 _ 1 16 Tryz.underlying22 hi hz0 hz1 hz2 rfl (by decide) _ ls.length _ rfl (World.ownsRow.alloc HRow.out _) ⟨wr.heap.size, 0, none⟩ 1 1 [_] rfl rfl (cell_one_new _ _ _) (by intro y hy; simp at hy; rcases hy with rfl; rfl) (by unfold maxLen; omega) (by omega) (by simp; omega) ?_); intro pv6 w6 hown6 hgrow6 hnil6 hloc6)
        go_roundw
        case rel =>
          have hk6 : Kept (fun b => inRow u5 b) wr w6 := ((Kept.refl _ _).alloc _).grown hgrow6 (fun k _ e => e)
          refine ⟨s.size + 1, by omega, by simp, by rw [HS.out]; simp, ?_, hkr.trans hk6 (fun b hb e => ?_)⟩
          · rw [HS.out]
            simpa using hown6
          · have := (ownsRow_lt HRow.out e).2
            omega
        case measure => simp [intOf]
      · have hlt2 : k < s.size := by omega
        have hk2 : (k : Int) < (s.size : Int) := by omega
        have hne : ((k : Int) == (s.size : Int)) = false := by simp; omega
        have hbn := byteN_get hlt2
        by_cases hb : byteN s k = c
        · have HS : Hid _ := HST.out.trans (if_pos (.inr hb))
          have h1 : (f : Int) ≤ (k : Int) := by omega
          have hbe : (((s[k]).toNat : Int) == (c : Int)) = true := by simp; omega
          go_wp2_with (at_builtin; go_must (refine wpList_append_own_at _ rfl _ _ 22 rfl w.heap.size 9 i0 _ 1 16 Tryz.underlying22 hi hz0 hz1 hz2 rfl (by decide) _ ls.length _ rfl (World.ownsRow.alloc HRow.out _) ⟨wr.heap.size, 0, none⟩ 1 1 [_] rfl rfl (cell_one_new _ _ _) (by intro y hy; simp at hy; rcases hy with rfl; rfl) (by unfold maxLen; omega) (by omega) (by simp; omega) ?_); intro pv6 w6 hown6 hgrow6 hnil6 hloc6)
          go_roundw
          case rel =>
            have hk6 : Kept (fun b => inRow u5 b) wr w6 := ((Kept.refl _ _).alloc _).grown hgrow6 (fun k _ e => e)
            refine ⟨k + 1, by omega, by simp, by rw [HS.out]; simp, ?_, hkr.trans hk6 (fun b hb e => ?_)⟩
            · rw [HS.out]
              simpa using hown6
            · have := (ownsRow_lt HRow.out e).2
              omega
          case measure => simp [intOf]; omega

        · have HS : Hid _ := HST.out.trans (if_neg (by omega))
          have hbe : (((s[k]).toNat : Int) == (c : Int)) = false := by simp; omega
          go_wp2
          go_roundw
          case rel =>
            refine ⟨k + 1, by omega, by simp, by rw [HS.out, hF], ?_, hkr⟩
            rw [HS.out, hL]
            exact hrow
          case measure => simp [intOf]; omega
    · obtain rfl : k = s.size + 1 := by omega
      go_wp2
      go_ret
      exact ⟨_, rfl, hrow, hkr⟩
end Go.Proofs.YtdbpdanocpfboabGreatDoor

/- The document's words. -/
namespace Go.Proofs.YtdbpdanocpfboabGreatDoor
open Go.RowKit

theorem addr_add (g j : Nat) : (⟨g, 0, none⟩ : Addr).add j = ⟨g, j, none⟩ := by
  unfold Addr.add
  by_cases h : j = 0 <;> simp [h]
/-- a row of one's own, read as a list -/
theorem own_ls {w : World} {base n : Nat} {e : TypeId} {v : Value} {xs : List Value} (h : w.ownsRow base e 1 v n xs) (hx : xs.length ≤ 17592186044416) : LsV w.heap.size w v xs := by
  have hl := h.1
  rcases h.2 with ⟨rfl, rfl⟩ | ⟨g, cap, cur, rfl, hg, hh, hn, hcap, hsz, htk⟩
  · have : xs = [] := List.eq_nil_of_length_eq_zero (by omega)
    subst this
    exact ⟨none, 0, rfl, Nat.zero_le _, by simp, fun i x hx => by simp at hx⟩
  · have hxn : xs.length = n := by omega
    refine ⟨some ⟨g, 0, none⟩, cap, by rw [hxn], by omega, hx, fun i x hi => ⟨g, 0, rfl, (Array.getElem?_eq_some_iff.1 hh).1, ?_⟩⟩
    have := h.cells (g := g) rfl i x hi
    rw [addr_add] at this
    rw [Nat.zero_add]
    exact this
theorem ownsRow_base {w : World} {base base' n size : Nat} {e : TypeId} {v : Value} {xs : List Value} (h : w.ownsRow base e size v n xs) (hb : base' ≤ base) : w.ownsRow base' e size v n xs :=
  ⟨h.1, by
    rcases h.2 with h2 | ⟨g, cap, cur, e, h3, h4⟩
    · exact .inl h2
    · exact .inr ⟨g, cap, cur, e, Nat.le_trans hb h3, h4⟩⟩
/-- the words of a line -/
def wordsL (s : ByteArray) : List ByteArray := (cutL s 32).filter (fun x => decide (x ≠ ⟨#[]⟩))
theorem cutL_len (s : ByteArray) (c : Nat) : (cutL s c).length ≤ s.size + 1 := (cutSt_le s c _).2
theorem toList_nil (s : ByteArray) : s.toList = [] ↔ s = ⟨#[]⟩ := by
  rw [ByteArray.toList_eq]
  constructor
  · intro h
    exact ByteArray.ext (Array.toList_inj.mp h)
  · intro h; rw [h]
theorem filter_take {α : Type} {p : α → Bool} {l : List α} {k : Nat} {x : α} (hx : l[k]? = some x) : (l.take (k + 1)).filter p = (l.take k).filter p ++ if p x then [x] else [] := by
  rw [List.take_add_one, hx, List.filter_append]
  congr 1
  simp [List.filter_cons]

set_option maxRecDepth 100000 in
set_option maxHeartbeats 2000000 in
theorem words29 (w : World) (s : ByteArray) (hs : s.size ≤ 1000) : Calls Tryz.prog 29 #[.string s] w fun e w' => ∃ v, e = .returned v ∧ w'.ownsRow w.heap.size 9 1 v (wordsL s).length ((wordsL s).map Value.string) ∧ Kept (fun _ => False) w w' := by
  obtain ⟨i0, hi, hz0, hz1, hz2⟩ := info_parts info9
  have hlen := cutL_len s 32
  have HW : Hid (wordsL s = (cutL s 32).filter (fun x => decide (x ≠ ⟨#[]⟩))) := rfl
  go_enter Tryz.func29, Tryz.ntmps29
  go_upto_region 2 with (go_at_call 28; go_must (refine (cut28 _ s 32 hs).mono ?_); rintro e w1 ⟨v, rfl, hr1, k1⟩)
  generalize hls : cutL s 32 = ls at *
  have hv0 : StrsV w1.heap.size w1 v ls := own_ls hr1 (by simp; omega)
  obtain ⟨va, vc, rfl, _⟩ := hv0.form
  have HV : Hid (StrsV w1.heap.size w1 (.slice va ls.length vc) ls) := hv0
  have hz := k1.size
  have HK1 : Hid (Kept (fun _ => False) w w1) := k1
  clear hr1 hv0 k1
  go_wp2
  go_loopw [4, 5] (fun l i wr => ∃ (k : Nat), k ≤ ls.length ∧ i = .int .i64 k ∧ wr.ownsRow w1.heap.size 9 1 l ((ls.take k).filter (fun x => decide (x ≠ ⟨#[]⟩))).length (((ls.take k).filter (fun x => decide (x ≠ ⟨#[]⟩))).map Value.string) ∧ Kept (fun _ => False) w1 wr) (fun _ i _ => ls.length - (intOf i).toNat)
  case atStart => exact ⟨0, Nat.zero_le _, rfl, World.ownsRow_nil _ _ _ _, Kept.refl _ _⟩
  case round =>
    obtain ⟨k, hk, rfl, hrow, hkr⟩ := hrel
    by_cases hlt : k < ls.length
    · have hki : (k : Int) < (ls.length : Int) := by omega
      obtain ⟨b, off, rfl, hb, hc⟩ := StrsV.cell (HV.out.kept hkr (Nat.le_refl _)) hlt
      have HST : Hid ((ls.take (k + 1)).filter (fun x => decide (x ≠ ⟨#[]⟩)) = (ls.take k).filter (fun x => decide (x ≠ ⟨#[]⟩)) ++ if decide (ls[k] ≠ ⟨#[]⟩) = true then [ls[k]] else []) := filter_take (List.getElem?_eq_getElem hlt)
      have hfl : ((ls.take k).filter (fun x => decide (x ≠ ⟨#[]⟩))).length ≤ k := Nat.le_trans (List.length_filter_le _ _) (by rw [List.length_take]; omega)
      have hsz := hkr.size
      generalize hF : (ls.take k).filter (fun x => decide (x ≠ ⟨#[]⟩)) = fs at *
      have HRow : Hid (wr.ownsRow w1.heap.size 9 1 u4 fs.length (fs.map Value.string)) := hrow
      clear hrow
      generalize hx : ls[k] = x at *
      by_cases he : x = ⟨#[]⟩
      · have HS : Hid _ := HST.out.trans (by rw [if_neg (by simpa using he), List.append_nil])
        have he' : x.toList = [] := (toList_nil x).2 he
        have he2 : (x.toList == []) = true := by rw [he']; rfl
        have he3 : x.toList.isEmpty = true := by rw [he']; rfl
        go_wp2
        go_roundw
        case rel =>
          refine ⟨k + 1, by omega, by simp, ?_, hkr⟩
          rw [HS.out]
          exact HRow.out
        case measure => simp [intOf]; omega
      · have HS : Hid _ := HST.out.trans (by rw [if_pos (by simpa using he)])
        have he' : ¬ x.toList = [] := fun h => he ((toList_nil x).1 h)
        have he2 : (x.toList == []) = false := by simpa using he'
        have he3 : x.toList.isEmpty = false := by simpa using he'
        go_wp2_with (at_builtin; go_must (refine wpList_append_own_at _ rfl _ _ 22 rfl w1.heap.size 9 i0 _ 1 16 Tryz.underlying22 hi hz0 hz1 hz2 rfl (by decide) _ fs.length _ rfl (World.ownsRow.alloc HRow.out _) ⟨wr.heap.size, 0, none⟩ 1 1 [_] rfl rfl (cell_one_new _ _ _) (by intro y hy; simp at hy; rcases hy with rfl; rfl) (by unfold maxLen; omega) (by omega) (by simp; omega) ?_); intro pv6 w6 hown6 hgrow6 hnil6 hloc6)
        go_roundw
        case rel =>
          have hk6 : Kept (fun b => inRow u4 b) wr w6 := ((Kept.refl _ _).alloc _).grown hgrow6 (fun k _ e => e)
          refine ⟨k + 1, by omega, by simp, ?_, hkr.trans hk6 (fun b hb e => ?_)⟩
          · rw [HS.out]
            simpa using hown6
          · have := (ownsRow_lt HRow.out e).2
            omega
        case measure => simp [intOf]; omega
    · obtain rfl : k = ls.length := by omega
      rw [List.take_length] at hrow
      go_wp2
      go_ret
      refine ⟨_, rfl, ?_, HK1.out.trans hkr (fun _ _ f => f)⟩
      rw [HW.out]
      exact ownsRow_base hrow hz
end Go.Proofs.YtdbpdanocpfboabGreatDoor
