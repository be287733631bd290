import Derived.Test.YtdbpdanocpfboabGreatDoorZSo
import Derived.Test.YtdbpdanocpfboabGreatDoorZRn
import Derived.Test.YtdbpdanocpfboabGreatDoorZPn
import Derived.Test.YtdbpdanocpfboabGreatDoorZShf
import Derived.Test.YtdbpdanocpfboabGreatDoorZDi
import Derived.Test.YtdbpdanocpfboabGreatDoorZCb
import Derived.Test.YtdbpdanocpfboabGreatDoorZRp
/- The program's formed: is a line of words as the document asks? -/
namespace Go.Proofs.YtdbpdanocpfboabGreatDoor
open Go.RowKit

theorem setN_pos (s : ByteArray) : ∀ (k n : Nat), 0 < k → setN s k = some n → 0 < n
  | 0, n, h, _ => absurd h (by omega)
  | k + 1, n, _, h => by
    rw [setN] at h
    cases hm : setN s k with
    | none => rw [hm] at h; simp [setStep] at h
    | some m =>
      rw [hm] at h
      simp only [setStep] at h
      split at h
      · cases h
        have : 0 < 2 ^ (byteN s k - 97) := Nat.pow_pos (by decide)
        omega
      · cases h
theorem setP_letters (s : ByteArray) (hz : 0 < s.size) : (setP s).2 = decide (0 ≤ lettersZ s) ∧ ((setP s).2 = true → (setP s).1 = lettersZ s) := by
  unfold setP lettersZ
  by_cases h : s = dash
  · simp [h]
  · rw [if_neg h, if_neg h]
    cases hs : setN s s.size with
    | none => simp
    | some n =>
      by_cases h0 : n = 0
      · exact absurd (setN_pos s _ n hz hs) (by omega)
      · simp [h0]

set_option maxRecDepth 100000 in
set_option maxHeartbeats 2000000 in
theorem formed47 (w : World) (B : Nat) (wv : Value) (ws : List ByteArray) (hw : StrsV B w wv ws) (hB : B ≤ w.heap.size) (hws : ∀ x ∈ ws, 0 < x.size ∧ x.size ≤ 1000) :
    Calls Tryz.prog 47 #[wv] w fun e w' => Kept (fun _ => False) w w' ∧ e = .returned (.bool (formB ws)) := by
  obtain ⟨a, cap, rfl, hl⟩ := hw.form
  by_cases h4 : 4 ≤ ws.length
  · have h3 : ¬ (ws.length : Int) ≤ 3 := by omega
    obtain ⟨b, off, rfl, hb, _⟩ := StrsV.cell hw (i := 0) (by omega)
    have HC : Hid (∀ W, Kept (fun _ => False) w W → ∀ i (hi : i < ws.length), W.cell? ⟨b, off + i, none⟩ = some (.string ws[i])) := by
      intro W hk i hi
      obtain ⟨b', off', e, _, h⟩ := StrsV.cell (LsV.kept hw hk hB) hi
      cases e
      exact h
    have hcap : ws.length ≤ cap := by have := LsV.cap hw; simpa using this
    have HD : Hid (∀ W, Kept (fun _ => False) w W → StrsV B W (.slice (some ⟨b, off + 3, none⟩) (ws.length - 3) (cap - 3)) (ws.drop 3)) := by
      intro W hk
      have h := LsV.sub (LsV.kept hw hk hB) (i := 3) (j := ws.length) (by omega) (by simp)
      have e : ((ws.map Value.string).drop 3).take (ws.length - 3) = (ws.drop 3).map Value.string := by
        rw [List.take_of_length_le (by simp), List.map_drop]
      rw [e] at h
      exact h
    have HSZ : Hid (∀ x ∈ ws, 0 < x.size ∧ x.size ≤ 1000) := hws
    have s0 : (ws[0]).size ≤ 1000 := (hws _ (List.getElem_mem _)).2
    have s1 : (ws[1]).size ≤ 1000 := (hws _ (List.getElem_mem _)).2
    have HP : Hid _ := setP_letters ws[1] (hws _ (List.getElem_mem _)).1
    have c0 := HC.out w (Kept.refl _ _) 0 (by omega)
    have c2 := HC.out w (Kept.refl _ _) 2 (by omega)
    rw [Nat.add_zero] at c0
    have HF : Hid (formB ws = (nameB ws[0] && (decide (0 ≤ lettersZ ws[1]) && (decide (ws[2] = gt) && (ws.drop 3).all nameB)))) := by
      rw [Hid, formB, getD_at (i := 0) (by omega), getD_at (i := 1) (by omega), getD_at (i := 2) (by omega), decide_eq_true h4, Bool.true_and]
      simp
    have i2 : (2 : Int) < (ws.length : Int) := by omega
    have i1 : (1 : Int) < (ws.length : Int) := by omega
    have i0 : (0 : Int) < (ws.length : Int) := by omega
    have i3 : (3 : Int) ≤ (ws.length : Int) := by omega
    have hE := beq_txt ws[2] gt
    rw [show gt.toList = [62] by rw [ByteArray.toList_eq]; rfl] at hE
    have C0 := isName61 w ws[0] (by omega)
    clear hw hws
    go_enter Tryz.func47, Tryz.ntmps47
    by_cases hgt : ws[2] = gt
    · have hE2 : ((ws[2]).toList == [62]) = true := by rw [hE]; simpa using hgt
      have HGT : Hid (ws[2] = gt) := hgt
      clear hE hgt
      cases hn : nameB ws[0] with
      | false =>
        rw [hn] at C0
        have HE : Hid (formB ws = false) := by rw [Hid, HF.out, hn]; rfl
        go_wp2_with (go_at_call 61; refine C0.mono ?_; rintro e w1 ⟨k1, rfl⟩)
        go_ret
        exact ⟨k1, ret_bool HE.out.symm⟩
      | true =>
        rw [hn] at C0
        have HF2 : Hid (formB ws = ((setP ws[1]).2 && (ws.drop 3).all nameB)) := by
          rw [Hid, HF.out, hn, HP.out.1, decide_eq_true HGT.out]
          simp
        have HS52 : Hid (∀ W, Calls Tryz.prog 52 #[.string ws[1]] W fun e w' => Kept (fun _ => False) W w' ∧ e = .returned (.tuple #[.int .i64 (setP ws[1]).1, .bool (setP ws[1]).2])) := fun W => set52 W ws[1] (by omega)
        have HNM : Hid (∀ W, Kept (fun _ => False) w W → Calls Tryz.prog 60 #[.slice (some ⟨b, off + 3, none⟩) (ws.length - 3) (cap - 3), .func (.func 61) #[] #[]] W fun e w' => Kept (fun _ => False) W w' ∧ e = .returned (.bool ((ws.drop 3).all nameB))) := fun W hk =>
          names60 W B _ (ws.drop 3) (HD.out W hk) (Nat.le_trans hB hk.size) (fun x hx => by have := (HSZ.out x (List.mem_of_mem_drop hx)).2; omega)
        generalize (setP ws[1]).1 = z1 at *
        generalize (setP ws[1]).2 = z2 at *
        generalize (ws.drop 3).all nameB = z3 at *
        cases z2 with
        | false =>
          go_wp2_with (first
            | (go_at_call 61; refine C0.mono ?_; rintro e w1 ⟨k1, rfl⟩; have c1 := HC.out w1 k1 1 (by omega))
            | (go_at_call 52; refine (HS52.out w1).mono ?_; rintro e w2 ⟨k2, rfl⟩))
          go_ret
          exact ⟨k1.trans k2 (fun _ _ f => f), ret_bool (by rw [HF2.out]; rfl)⟩
        | true =>
          go_wp2_with (first
            | (go_at_call 61; refine C0.mono ?_; rintro e w1 ⟨k1, rfl⟩; have c1 := HC.out w1 k1 1 (by omega))
            | (go_at_call 52; refine (HS52.out w1).mono ?_; rintro e w2 ⟨k2, rfl⟩; have K2 := k1.trans k2 (fun _ _ f => f))
            | (go_at_call 60; refine (HNM.out w2 K2).mono ?_; rintro e w3 ⟨k3, rfl⟩))
          go_ret
          exact ⟨K2.trans k3 (fun _ _ f => f), ret_bool (by rw [HF2.out]; simp)⟩
    · have hE2 : ((ws[2]).toList == [62]) = false := by rw [hE]; simpa using hgt
      have HE : Hid (formB ws = false) := by rw [Hid, HF.out, decide_eq_false hgt]; simp
      clear hE hgt C0
      go_wp2
      go_ret
      exact ⟨Kept.refl _ _, ret_bool HE.out.symm⟩
  · have HE : Hid (formB ws = false) := by simp [Hid, formB, h4]
    have h3 : (ws.length : Int) ≤ 3 := by omega
    clear hw
    go_enter Tryz.func47, Tryz.ntmps47
    go_wp2
    go_ret
    exact ⟨Kept.refl _ _, ret_bool HE.out.symm⟩
end Go.Proofs.YtdbpdanocpfboabGreatDoor

/- Small functions of the program's reader: refusal, cmp.Or, the closure of read. -/
namespace Go.Proofs.YtdbpdanocpfboabGreatDoor
open Go.RowKit

set_option maxRecDepth 100000 in
set_option maxHeartbeats 1000000 in
theorem refusal49 (w : World) (b : Bool) (x : Int) : Calls Tryz.prog 49 #[.bool b, .int .i64 x] w fun e w' => e = .returned (.int .i64 (if b then x else 0)) ∧ w' = w := by
  go_enter Tryz.func49, Tryz.ntmps49
  cases b with
  | true =>
    go_wp2
    go_ret
    exact ⟨rfl, rfl⟩
  | false =>
    go_wp2
    go_ret
    exact ⟨rfl, rfl⟩

set_option maxRecDepth 100000 in
set_option maxHeartbeats 1000000 in
theorem cl46 (w : World) (c : Int) : Calls Tryz.prog 46 #[.int .i32 c] w fun e w' => e = .returned (.bool (c == 32)) ∧ w' = w := by
  go_enter Tryz.func46, Tryz.ntmps46
  go_wp2
  go_ret
  exact ⟨rfl, rfl⟩

set_option maxRecDepth 100000 in
set_option maxHeartbeats 1000000 in
theorem or48 (w : World) (g : Nat) (x y : Int) (h0 : w.cell? ⟨g, 0, none⟩ = some (.int .i64 x)) (h1 : w.cell? ⟨g, 1, none⟩ = some (.int .i64 y)) :
    Calls Tryz.prog 48 #[.slice (some ⟨g, 0, none⟩) 2 2] w fun e w' => e = .returned (.int .i64 (if x ≠ 0 then x else y)) ∧ w' = w := by
  go_enter Tryz.func48, Tryz.ntmps48
  go_wp2
  go_loopw [8] (fun iv wr => ∃ k : Nat, k ≤ 2 ∧ iv = .int .i64 k ∧ (0 < k → x = 0) ∧ (1 < k → y = 0) ∧ wr = w) (fun iv _ => 2 - (intOf iv).toNat)
  case atStart => exact ⟨0, by decide, rfl, fun h => absurd h (by omega), fun h => absurd h (by omega), rfl⟩
  case round =>
    obtain ⟨k, hk, rfl, hx, hy, hw⟩ := hrel
    subst wr
    have HX : Hid _ := hx
    have HY : Hid _ := hy
    clear hx hy
    match k, hk with
    | 0, _ =>
      by_cases hx0 : x = 0
      · subst hx0
        go_wp2
        go_roundw
        case rel => exact ⟨1, by decide, rfl, by simp, fun h => absurd h (by omega), by simp⟩
        case measure => simp [intOf]
      · have hxb : (x == 0) = false := by simpa using hx0
        go_wp2
        go_ret
        exact ⟨by simp, rfl⟩
    | 1, _ =>
      have hx0 := HX.out (by decide)
      subst hx0
      by_cases hy0 : y = 0
      · subst hy0
        go_wp2
        go_roundw
        case rel => exact ⟨2, by decide, rfl, by simp, by simp, by simp⟩
        case measure => simp [intOf]
      · go_wp2
        go_ret
        exact ⟨by simp, rfl⟩
    | 2, _ =>
      have hx0 := HX.out (by decide)
      have hy0 := HY.out (by decide)
      subst hx0 hy0
      go_wp2
      go_ret
      exact ⟨by simp, rfl⟩
end Go.Proofs.YtdbpdanocpfboabGreatDoor

/- The library's functions that the program's reader calls, in the document's words. -/
namespace Go.Proofs.YtdbpdanocpfboabGreatDoor
open Go.RowKit

theorem StrsV.run {B : Nat} {w : World} {v : Value} {xs : List ByteArray} (h : StrsV B w v xs) : (xs = [] ∧ ∃ a cap, v = .slice a 0 cap) ∨ ∃ b off cap, v = .slice (some ⟨b, off, none⟩) xs.length cap ∧ ∀ j, j < xs.length → w.cell? ⟨b, off + j, none⟩ = some (.string (xs.getD j ByteArray.empty)) := by
  obtain ⟨a, cap, rfl, _⟩ := h.form
  cases xs with
  | nil => exact .inl ⟨rfl, a, cap, rfl⟩
  | cons x r =>
    obtain ⟨b, off, rfl, _, _⟩ := StrsV.cell h (i := 0) (by simp)
    refine .inr ⟨b, off, cap, rfl, fun j hj => ?_⟩
    obtain ⟨b', off', e, _, hc⟩ := StrsV.cell h hj
    cases e
    rw [hc, List.getD_eq_getElem?_getD, List.getElem?_eq_getElem hj]
    rfl
theorem contains_mem (xs : List ByteArray) (n : ByteArray) : Lib.containsS xs n = memB n xs := by
  rw [Bool.eq_iff_iff, Lib.containsS_iff, memB_iff]
theorem contains50 (w : World) (B : Nat) (v : Value) (xs : List ByteArray) (n : ByteArray) (hv : StrsV B w v xs) : Calls Tryz.prog 50 #[v, .string n] w fun e w' => e = .returned (.bool (memB n xs)) ∧ w' = w := by
  have hl := hv.form
  rcases hv.run with ⟨rfl, a, cap, rfl⟩ | ⟨b, off, cap, rfl, hc⟩
  · exact (Tryz.slices_Contains_string_empty a cap n w).mono (fun e w' h => ⟨h.1, h.2⟩)
  · obtain ⟨_, _, _, hl⟩ := hl
    have h := Tryz.slices_Contains_string b off xs.length cap xs n w (Nat.le_refl _) (by omega) hc
    rw [List.take_length, contains_mem] at h
    exact h
theorem idx_find (xs : List ByteArray) (n : ByteArray) : Lib.idxOfS xs n = findZ xs n := by
  by_cases hm : n ∈ xs
  · obtain ⟨k, hk, hx, hall⟩ : ∃ k, ∃ hk : k < xs.length, xs[k] = n ∧ ∀ j (hj : j < k), xs[j] ≠ n := by
      have hs : (xs.findIdx? (fun x => decide (x = n))).isSome = true := by
        rw [List.findIdx?_isSome, List.any_eq_true]
        exact ⟨n, hm, by simp⟩
      obtain ⟨k, hk⟩ := Option.isSome_iff_exists.1 hs
      obtain ⟨h1, h2, h3⟩ := List.findIdx?_eq_some_iff_getElem.1 hk
      exact ⟨k, h1, by simpa using h2, fun j hj => by simpa using h3 j hj⟩
    rw [findZ_first hk hx hall, Lib.idxOfS, Lib.idxFromS_hit n xs k 0 hk (by rw [List.getD_eq_getElem?_getD, List.getElem?_eq_getElem hk]; exact hx) (fun j hj => by rw [List.getD_eq_getElem?_getD, List.getElem?_eq_getElem (by omega)]; exact hall j hj), Nat.zero_add]
  · have h2 : findZ xs n = -1 := findZ_none (fun j hj e => hm (e ▸ List.getElem_mem hj))
    have h3 := Lib.idxOfS_miss xs xs.length n (fun j hj e => hm (by rw [List.getD_eq_getElem?_getD, List.getElem?_eq_getElem hj] at e; exact e ▸ List.getElem_mem hj))
    rw [List.take_length] at h3
    rw [h2, h3]
theorem index54 (w : World) (B : Nat) (v : Value) (xs : List ByteArray) (n : ByteArray) (hv : StrsV B w v xs) : Calls Tryz.prog 54 #[v, .string n] w fun e w' => e = .returned (.int .i64 (findZ xs n)) ∧ w' = w := by
  have hl := hv.form
  rcases hv.run with ⟨rfl, a, cap, rfl⟩ | ⟨b, off, cap, rfl, hc⟩
  · have h := Tryz.slices_Index_string_empty a cap n w
    rw [idx_find] at h
    exact h
  · obtain ⟨_, _, _, hl⟩ := hl
    have h := Tryz.slices_Index_string b off xs.length cap xs n w (Nat.le_refl _) (by omega) hc
    rw [List.take_length, idx_find] at h
    exact h
theorem kept_below {w w' : World} (h : Below w.heap.size w w') : Kept (fun _ => False) w w' := (Kept.of_below h).mono (fun k hk h2 => absurd hk (by omega))
set_option maxRecDepth 100000 in
set_option maxHeartbeats 1000000 in
theorem clone53 (w : World) (s : ByteArray) (hs : s.size ≤ 1000) : Calls Tryz.prog 53 #[.string s] w fun e w' => e = .returned (.string s) ∧ Kept (fun _ => False) w w' := by
  go_enter Tryz.func53, Tryz.ntmps53
  go_wp2_with (go_at_call 78; refine (Tryz.stringslite_Clone s w (by omega)).mono ?_; rintro e w1 ⟨rfl, hb⟩)
  go_ret
  exact ⟨rfl, kept_below hb⟩
theorem alloc_strs (w : World) (xs : List ByteArray) (hl : xs.length ≤ 17592186044416) : StrsV (w.heap.size + 1) (w.alloc (.cells (xs.map Value.string).toArray 9)) (.slice (some ⟨w.heap.size, 0, none⟩) xs.length xs.length) xs := by
  refine ⟨_, _, by rw [List.length_map], by simp, by simpa using hl, fun i x hx => ⟨w.heap.size, 0, rfl, Nat.lt_succ_self _, ?_⟩⟩
  rw [Nat.zero_add, World.cell?_alloc_at (hn := rfl)]
  simpa using hx
theorem splitK_len (c : UInt8) : ∀ (k : Nat) (s : List UInt8), Lib.count s [c] = k → (Lib.splitK [c] 0 k s).length = k + 1
  | 0, s, _ => rfl
  | k + 1, s, hk => by
    rcases Lib.index_spec s [c] with ⟨hi, _⟩ | ⟨i, hi, _⟩
    · rw [Lib.count_miss hi] at hk; omega
    · have h1 := Lib.count_hit (sub := [c]) (by simp) hi
      rw [Lib.splitK, if_neg (by rw [hi]; simp), hi, List.length_cons]
      rw [splitK_len c k _ (by simp only [List.length_singleton, Int.toNat_natCast] at h1 ⊢; omega)]
theorem splitB_len (c : UInt8) (s : ByteArray) : (Lib.splitB ⟨#[c]⟩ 0 (Lib.countB s ⟨#[c]⟩) s).length = Lib.countB s ⟨#[c]⟩ + 1 := by
  have h := congrArg List.length (Lib.splitB_data ⟨#[c]⟩ 0 (Lib.countB s ⟨#[c]⟩) s)
  rw [List.length_map] at h
  rw [h]
  exact splitK_len c _ _ rfl
theorem split25 (w : World) (s : ByteArray) (m : Int) (hs : s.size ≤ 1000) (hm : w.cell? ⟨0, 0, none⟩ = some (.int .i64 m)) : Calls Tryz.prog 25 #[.string s, .string ⟨#[10]⟩] w fun e w' => ∃ v, e = .returned v ∧ StrsV w'.heap.size w' v (cutL s 10) ∧ Kept (fun _ => False) w w' := by
  refine (Tryz.strings_Split s ⟨#[10]⟩ m w (by omega) hm (by decide)).mono ?_
  rintro e w' ⟨rfl, rfl⟩
  have e1 : Lib.splitB ⟨#[10]⟩ 0 (Lib.countB s ⟨#[10]⟩) s = cutL s 10 := split_cutL s 10
  have e2 : Lib.countB s ⟨#[10]⟩ + 1 = (cutL s 10).length := by
    rw [← e1, splitB_len]
  rw [e1, e2]
  refine ⟨_, rfl, ?_, (Kept.refl _ _).alloc _⟩
  rw [World.size_alloc]
  exact alloc_strs w _ (by have := cutL_len s 10; omega)
theorem fields45 (w : World) (s : ByteArray) (hs : s.size ≤ 1000) : Calls Tryz.prog 45 #[.string s, .func (.func 46) #[] #[]] w fun e w' => ∃ v, e = .returned v ∧ w'.ownsRow w.heap.size 9 1 v (wordsL s).length ((wordsL s).map Value.string) ∧ Kept (fun _ => False) w w' := by
  have hp : PredAtRunes Tryz.prog 46 #[] blankP w := fun W x hx _ => by
    have h := cl46 W (x : Int)
    refine h.mono ?_
    rintro e w' ⟨rfl, rfl⟩
    refine ⟨?_, 0, rfl⟩
    congr 2
    rw [blankP, Bool.eq_iff_iff]
    simp
    omega
  refine (Tryz.strings_FieldsFunc_runes 46 #[] (fun args w => by kernel_rfl) blankP s w (by omega) hp).mono ?_
  rintro e w' ⟨A, rfl, _, h2, h3⟩
  rw [fields_wordsL] at h2 ⊢
  exact ⟨_, rfl, h2, kept_below h3⟩
end Go.Proofs.YtdbpdanocpfboabGreatDoor
