import Derived.Laws.EntriesVeiled
import Derived.Test.YtdbpdanocpfboabGreatDoorZEv
import Derived.Test.YtdbpdanocpfboabGreatDoorZPn
import Derived.Test.YtdbpdanocpfboabGreatDoorZDi
import Derived.Test.YtdbpdanocpfboabGreatDoorZBun05
/- sound: is a model what lines can tell? -/
namespace Go.Proofs.YtdbpdanocpfboabGreatDoor
open Go.RowKit

theorem all_range {α : Type} (l : List α) (d : α) (q : α → Bool) : (List.range l.length).all (fun i => q (l.getD i d)) = l.all q := by
  rw [Bool.eq_iff_iff, List.all_eq_true, List.all_eq_true]
  constructor
  · intro h x hx
    obtain ⟨i, hi, rfl⟩ := List.getElem_of_mem hx
    have := h i (by simpa using hi)
    simpa [List.getD, hi] using this
  · intro h i hi
    have hi' : i < l.length := by simpa using hi
    have := h l[i] (List.getElem_mem hi')
    simpa [List.getD, hi'] using this

set_option maxRecDepth 100000 in
set_option maxHeartbeats 1000000 in
theorem cl56 (w : World) (b n : Nat) (x : Int) (hb : w.cell? ⟨b, 0, none⟩ = some (.int .i64 n)) : Calls Tryz.prog 56 #[.int .i64 x, .pointer (some ⟨b, 0, none⟩)] w fun e w' => Kept (fun _ => False) w w' ∧ e = .returned (.bool (decide (0 ≤ x ∧ x < n))) := by
  go_enter Tryz.func56, Tryz.ntmps56
  by_cases h : 0 ≤ x
  · go_wp2
    go_ret
    exact ⟨Kept.refl _ _, ret_bool (by simp [h])⟩
  · go_wp2
    go_ret
    exact ⟨Kept.refl _ _, ret_bool (by simp; omega)⟩

set_option maxRecDepth 100000 in
set_option maxHeartbeats 1000000 in
theorem cl57 (w : World) (x : Int) : Calls Tryz.prog 57 #[.int .i64 x] w fun e w' => Kept (fun _ => False) w w' ∧ e = .returned (.bool (okNum x)) := by
  go_enter Tryz.func57, Tryz.ntmps57
  by_cases h : 0 ≤ x
  · go_wp2
    go_ret
    exact ⟨Kept.refl _ _, ret_bool (by simp [okNum, h])⟩
  · go_wp2
    go_ret
    exact ⟨Kept.refl _ _, ret_bool (by simp [okNum]; omega)⟩

def someB (n : Nat) (r : List Int) : Bool := decide (0 < r.length) && (decide (r.length ≤ n) && r.all (fun t => decide (0 ≤ t ∧ t < n)))

theorem states59 (w : World) (B b n : Nat) (r : Value) (row : List Int) (hr : IntsV B w r row) (hB : B ≤ w.heap.size) (hb : w.cell? ⟨b, 0, none⟩ = some (.int .i64 n)) :
    Calls Tryz.prog 59 #[r, .func (.func 56) #[] #[.pointer (some ⟨b, 0, none⟩)]] w fun e w' => Kept (fun _ => False) w w' ∧ e = .returned (.bool (row.all (fun t => decide (0 ≤ t ∧ t < n)))) := by
  have h := every59 56 #[.pointer (some ⟨b, 0, none⟩)] (enters_of Tryz.func56 (by kernel_rfl) rfl) w B r (row.map (Value.int .i64)) (fun i => decide (0 ≤ row.getD i 0 ∧ row.getD i 0 < n)) hr.ls hB (fun i hi W hk => by
    rw [List.getElem_map]
    have hi' : i < row.length := by simpa using hi
    have e : row.getD i 0 = row[i] := by simp [List.getD, hi']
    rw [e]
    exact cl56 W b n _ ((hk.cell (p := ⟨b, 0, none⟩) (lt_of_cell hb) (fun f => f)).trans hb))
  rw [List.length_map] at h
  have e2 := all_range row 0 (fun t => decide (0 ≤ t ∧ t < (n : Int)))
  rw [← e2]
  exact h

set_option maxRecDepth 100000 in
set_option maxHeartbeats 1000000 in
theorem cl58 (w : World) (B b b4 n : Nat) (r : Value) (row : List Int) (hr : IntsV B w r row) (hB : B ≤ w.heap.size) (hb : w.cell? ⟨b, 0, none⟩ = some (.int .i64 n)) (hb4 : w.cell? ⟨b4, 0, none⟩ = some (.func (.func 56) #[] #[.pointer (some ⟨b, 0, none⟩)])) :
    Calls Tryz.prog 58 #[r, .pointer (some ⟨b, 0, none⟩), .pointer (some ⟨b4, 0, none⟩)] w fun e w' => Kept (fun _ => False) w w' ∧ e = .returned (.bool (someB n row)) := by
  have h59 := states59 w B b n r row hr hB hb
  obtain ⟨a, cap, rfl, hl⟩ := hr.form
  go_enter Tryz.func58, Tryz.ntmps58
  clear hr
  by_cases h0 : 0 < row.length
  · have h0' : (0 : Int) < (row.length : Int) := by omega
    by_cases h1 : row.length ≤ n
    · have h1' : (row.length : Int) ≤ (n : Int) := by omega
      have HE : Hid (someB n row = row.all (fun t => decide (0 ≤ t ∧ t < (n : Int)))) := by simp [Hid, someB, h0, h1]
      generalize row.all (fun t => decide (0 ≤ t ∧ t < (n : Int))) = q at *
      go_wp2_with (go_at_call 59; refine h59.mono ?_; rintro e w1 ⟨k1, rfl⟩)
      go_ret
      exact ⟨k1, ret_bool HE.out.symm⟩
    · have h1' : ¬ (row.length : Int) ≤ (n : Int) := by omega
      have HE : Hid (someB n row = false) := by simp [Hid, someB, h1]
      clear h59
      go_wp2
      go_ret
      exact ⟨Kept.refl _ _, ret_bool HE.out.symm⟩
  · have h0' : ¬ (0 : Int) < (row.length : Int) := by omega
    have HE : Hid (someB n row = false) := by simp [Hid, someB, h0]
    clear h59
    go_wp2
    go_ret
    exact ⟨Kept.refl _ _, ret_bool HE.out.symm⟩

theorem names60 (w : World) (B : Nat) (v : Value) (names : List ByteArray) (hv : StrsV B w v names) (hB : B ≤ w.heap.size) (hsz : ∀ x ∈ names, x.size ≤ 9223372036854775807) :
    Calls Tryz.prog 60 #[v, .func (.func 61) #[] #[]] w fun e w' => Kept (fun _ => False) w w' ∧ e = .returned (.bool (names.all nameB)) := by
  have h := every60 61 #[] (enters_of Tryz.func61 (by kernel_rfl) rfl) w B v (names.map Value.string) (fun i => nameB (names.getD i nil)) hv hB (fun i hi W hk => by
    rw [List.getElem_map]
    have hi' : i < names.length := by simpa using hi
    have e : names.getD i nil = names[i] := by simp [List.getD, hi']
    rw [e]
    exact isName61 W _ (hsz _ (List.getElem_mem hi')))
  rw [List.length_map, all_range names nil nameB] at h
  exact h
theorem letters59 (w : World) (B : Nat) (v : Value) (ls : List Int) (hv : IntsV B w v ls) (hB : B ≤ w.heap.size) :
    Calls Tryz.prog 59 #[v, .func (.func 57) #[] #[]] w fun e w' => Kept (fun _ => False) w w' ∧ e = .returned (.bool (ls.all okNum)) := by
  have h := every59 57 #[] (enters_of Tryz.func57 (by kernel_rfl) rfl) w B v (ls.map (Value.int .i64)) (fun i => okNum (ls.getD i 0)) hv.ls hB (fun i hi W hk => by
    rw [List.getElem_map]
    have hi' : i < ls.length := by simpa using hi
    have e : ls.getD i 0 = ls[i] := by simp [List.getD, hi']
    rw [e]
    exact cl57 W _)
  rw [List.length_map, all_range ls 0 okNum] at h
  exact h
theorem rows62s (w : World) (B b b4 n : Nat) (v : Value) (rows : List (List Int)) (hv : RowsV B w v rows) (hB : B ≤ w.heap.size) (hb : w.cell? ⟨b, 0, none⟩ = some (.int .i64 n)) (hb4 : w.cell? ⟨b4, 0, none⟩ = some (.func (.func 56) #[] #[.pointer (some ⟨b, 0, none⟩)])) :
    Calls Tryz.prog 62 #[v, .func (.func 58) #[] #[.pointer (some ⟨b, 0, none⟩), .pointer (some ⟨b4, 0, none⟩)]] w fun e w' => Kept (fun _ => False) w w' ∧ e = .returned (.bool (rows.all (someB n))) := by
  obtain ⟨rs, hrl, hls, hr⟩ := hv
  have h := every62 58 #[.pointer (some ⟨b, 0, none⟩), .pointer (some ⟨b4, 0, none⟩)] (enters_of Tryz.func58 (by kernel_rfl) rfl) w B v rs (fun i => someB n (rows.getD i [])) hls hB (fun i hi W hk => by
    have hi' : i < rows.length := by omega
    have e : rows.getD i [] = rows[i] := by simp [List.getD, hi']
    rw [e]
    exact cl58 W B b b4 n _ _ ((hr i _ _ (List.getElem?_eq_getElem hi) (List.getElem?_eq_getElem hi')).below (hk.below hB (fun _ f => f.elim))) (Nat.le_trans hB hk.size) ((hk.cell (p := ⟨b, 0, none⟩) (lt_of_cell hb) (fun f => f)).trans hb) ((hk.cell (p := ⟨b4, 0, none⟩) (lt_of_cell hb4) (fun f => f)).trans hb4))
  rw [hrl, all_range rows [] (someB n)] at h
  exact h
theorem rows62d (w : World) (B : Nat) (v : Value) (rows : List (List Int)) (hv : RowsV B w v rows) (hB : B ≤ w.heap.size) (hl : ∀ r ∈ rows, r.length ≤ 12) :
    Calls Tryz.prog 62 #[v, .func (.func 63) #[] #[]] w fun e w' => Kept (fun _ => False) w w' ∧ e = .returned (.bool (rows.all (fun r => decide r.Nodup))) := by
  obtain ⟨rs, hrl, hls, hr⟩ := hv
  have h := every62 63 #[] (enters_of Tryz.func63 (by kernel_rfl) rfl) w B v rs (fun i => decide (rows.getD i []).Nodup) hls hB (fun i hi W hk => by
    have hi' : i < rows.length := by omega
    have e : rows.getD i [] = rows[i] := by simp [List.getD, hi']
    rw [e]
    refine (distinct63 W B _ rows[i] (by have := hl _ (List.getElem_mem hi'); omega) ((hr i _ _ (List.getElem?_eq_getElem hi) (List.getElem?_eq_getElem hi')).below (hk.below hB (fun _ f => f.elim))).ls (Nat.le_trans hB hk.size)).mono ?_
    rintro e w' ⟨h1, h2⟩
    exact ⟨h2, h1⟩)
  rw [hrl, all_range rows [] (fun r => decide r.Nodup)] at h
  exact h
/-- the program asks besides that no row is longer than there are states -/
theorem sound_eq (m : MD) (h0 : 0 < m.names.length) (h12 : m.names.length ≤ 12) (hl : m.letters.length = m.names.length) (ht : m.tos.length = m.names.length) :
    fitsB m = (m.names.all nameB && (decide m.names.Nodup && (m.letters.all okNum && (m.tos.all (someB m.names.length) && m.tos.all (fun r => decide r.Nodup))))) := by
  have e : m.tos.all (rowB m.names.length) = (m.tos.all (someB m.names.length) && m.tos.all (fun r => decide r.Nodup)) := by
    rw [Bool.eq_iff_iff]
    simp only [List.all_eq_true, Bool.and_eq_true, rowB, someB, decide_eq_true_eq, Bool.not_eq_true', List.isEmpty_eq_false_iff]
    constructor
    · intro h
      refine ⟨fun r hr => ⟨List.length_pos_iff.2 (h r hr).1, nodup_range (h r hr).2.2 (h r hr).2.1, (h r hr).2.1⟩, fun r hr => (h r hr).2.2⟩
    · rintro ⟨h1, h2⟩ r hr
      exact ⟨List.length_pos_iff.1 (h1 r hr).1, (h1 r hr).2.2, h2 r hr⟩
  unfold fitsB
  rw [e]
  simp [h0, h12, hl, ht]

theorem rowsV_kept {B : Nat} {w w' : World} {v : Value} {rows : List (List Int)} (h : RowsV B w v rows) (hk : Kept (fun _ => False) w w') (hB : B ≤ w.heap.size) : RowsV B w' v rows := by
  obtain ⟨rs, e, hl, hr⟩ := h
  exact ⟨rs, e, hl.kept hk hB, fun i r row h1 h2 => (hr i r row h1 h2).below (hk.below hB (fun _ f => f.elim))⟩

set_option maxRecDepth 100000 in
set_option maxHeartbeats 2000000 in
theorem sound34 (w : World) (B : Nat) (v : Value) (m : MD) (hm : ModV B w v m) (hB : B ≤ w.heap.size) (hsz : ∀ x ∈ m.names, x.size ≤ 9223372036854775807) : Calls Tryz.prog 34 #[v] w fun e w' => Kept (fun _ => False) w w' ∧ e = .returned (.bool (fitsB m)) := by
  obtain ⟨nv, lv, tv, rfl, hn, hl, ht⟩ := hm.ex
  obtain ⟨a1, c1, rfl, hl1⟩ := hn.form
  obtain ⟨a2, c2, rfl, hl2⟩ := hl.form
  obtain ⟨a3, c3, rfl, hl3⟩ : ∃ a3 c3, tv = .slice a3 m.tos.length c3 ∧ m.tos.length ≤ 17592186044416 := by
    obtain ⟨rs, e, h, _⟩ := ht
    obtain ⟨a3, c3, h1, h2⟩ := h.form
    rw [e] at h1 h2
    exact ⟨a3, c3, h1, h2⟩
  have HSZ : Hid (∀ x ∈ m.names, x.size ≤ 9223372036854775807) := hsz
  have HN : Hid (StrsV B w (.slice a1 m.names.length c1) m.names) := hn
  have HL : Hid (IntsV B w (.slice a2 m.letters.length c2) m.letters) := hl
  have HT : Hid (RowsV B w (.slice a3 m.tos.length c3) m.tos) := ht
  clear hm hn hl ht hsz
  go_enter Tryz.func34, Tryz.ntmps34
  by_cases h0 : 0 < m.names.length
  · have g0 : ¬ (m.names.length : Int) < 1 := by omega
    by_cases h12 : m.names.length ≤ 12
    · have g12 : ¬ (m.names.length : Int) > 12 := by omega
      by_cases hll : m.letters.length = m.names.length
      · by_cases htt : m.tos.length = m.names.length
        · have E : Hid _ := sound_eq m h0 h12 hll htt
          rw [hll, htt]
          rw [hll] at HL
          rw [htt] at HT
          have HLL : Hid (m.letters.length = m.names.length ∧ m.tos.length = m.names.length) := ⟨hll, htt⟩
          clear hll htt
          go_upto_region 7 with fail
          obtain ⟨W0, hW0⟩ : ∃ W0, W0 = ((w.alloc (.cells #[.slice a1 m.names.length c1, .slice a2 m.names.length c2, .slice a3 m.names.length c3] 26)).alloc (.cells #[.int .i64 m.names.length] 3)).alloc (.cells #[.func (.func 56) #[] #[.pointer (some ⟨w.heap.size + 1, 0, none⟩)]] 81) := ⟨_, rfl⟩
          rw [← hW0]
          have k0 : Kept (fun _ => False) w W0 := by rw [hW0]; exact (((Kept.refl _ _).alloc _).alloc _).alloc _
          have HX0 : W0.cell? ⟨w.heap.size, 0, none⟩ = some (.slice a1 m.names.length c1) ∧ W0.cell? ⟨w.heap.size, 1, none⟩ = some (.slice a2 m.names.length c2) ∧ W0.cell? ⟨w.heap.size, 2, none⟩ = some (.slice a3 m.names.length c3) ∧ W0.cell? ⟨w.heap.size + 1, 0, none⟩ = some (.int .i64 m.names.length) ∧ W0.cell? ⟨w.heap.size + 1 + 1, 0, none⟩ = some (.func (.func 56) #[] #[.pointer (some ⟨w.heap.size + 1, 0, none⟩)]) := by
            rw [hW0]
            refine ⟨?_, ?_, ?_, ?_, ?_⟩
            · rw [World.cell?_alloc_past _ _ _ (by simp only [World.size_alloc]; omega)]; rw [World.cell?_alloc_past _ _ _ (by simp only [World.size_alloc]; omega)]; rw [World.cell?_alloc_at (hn := by simp)]; rfl
            · rw [World.cell?_alloc_past _ _ _ (by simp only [World.size_alloc]; omega)]; rw [World.cell?_alloc_past _ _ _ (by simp only [World.size_alloc]; omega)]; rw [World.cell?_alloc_at (hn := by simp)]; rfl
            · rw [World.cell?_alloc_past _ _ _ (by simp only [World.size_alloc]; omega)]; rw [World.cell?_alloc_past _ _ _ (by simp only [World.size_alloc]; omega)]; rw [World.cell?_alloc_at (hn := by simp)]; rfl
            · rw [World.cell?_alloc_past _ _ _ (by simp only [World.size_alloc]; omega)]; rw [World.cell?_alloc_at (hn := by simp)]; rfl
            · rw [World.cell?_alloc_at (hn := by simp)]; rfl
          have HX : Hid (∀ W, Kept (fun _ => False) W0 W → W.cell? ⟨w.heap.size, 0, none⟩ = some (.slice a1 m.names.length c1) ∧ W.cell? ⟨w.heap.size, 1, none⟩ = some (.slice a2 m.names.length c2) ∧ W.cell? ⟨w.heap.size, 2, none⟩ = some (.slice a3 m.names.length c3) ∧ W.cell? ⟨w.heap.size + 1, 0, none⟩ = some (.int .i64 m.names.length) ∧ W.cell? ⟨w.heap.size + 1 + 1, 0, none⟩ = some (.func (.func 56) #[] #[.pointer (some ⟨w.heap.size + 1, 0, none⟩)])) := fun W hk =>
            ⟨(hk.cell (p := ⟨w.heap.size, 0, none⟩) (lt_of_cell HX0.1) (fun f => f)).trans HX0.1, (hk.cell (p := ⟨w.heap.size, 1, none⟩) (lt_of_cell HX0.2.1) (fun f => f)).trans HX0.2.1, (hk.cell (p := ⟨w.heap.size, 2, none⟩) (lt_of_cell HX0.2.2.1) (fun f => f)).trans HX0.2.2.1, (hk.cell (p := ⟨w.heap.size + 1, 0, none⟩) (lt_of_cell HX0.2.2.2.1) (fun f => f)).trans HX0.2.2.2.1, (hk.cell (p := ⟨w.heap.size + 1 + 1, 0, none⟩) (lt_of_cell HX0.2.2.2.2) (fun f => f)).trans HX0.2.2.2.2⟩
          clear HX0 hW0
          have HB : Hid (∀ W, Kept (fun _ => False) W0 W → B ≤ W.heap.size) := fun W hk => Nat.le_trans hB (Nat.le_trans k0.size hk.size)
          have C1 : Hid (∀ W, Kept (fun _ => False) W0 W → Calls Tryz.prog 60 #[.slice a1 m.names.length c1, .func (.func 61) #[] #[]] W fun e w' => Kept (fun _ => False) W w' ∧ e = .returned (.bool (m.names.all nameB))) := fun W hk => names60 W B _ m.names (HN.out.below ((k0.trans hk (fun _ _ f => f)).below hB (fun _ f => f.elim))) (HB.out W hk) HSZ.out
          have C2 : Hid (∀ W, Kept (fun _ => False) W0 W → Calls Tryz.prog 51 #[.slice a1 m.names.length c1] W fun e w' => Kept (fun _ => False) W w' ∧ e = .returned (.bool (decide m.names.Nodup))) := fun W hk => (distinct51 W B _ m.names (by omega) (HN.out.below ((k0.trans hk (fun _ _ f => f)).below hB (fun _ f => f.elim))) (HB.out W hk)).mono (fun e w' h => ⟨h.2, h.1⟩)
          have C3 : Hid (∀ W, Kept (fun _ => False) W0 W → Calls Tryz.prog 59 #[.slice a2 m.names.length c2, .func (.func 57) #[] #[]] W fun e w' => Kept (fun _ => False) W w' ∧ e = .returned (.bool (m.letters.all okNum))) := fun W hk => letters59 W B _ m.letters (HL.out.below ((k0.trans hk (fun _ _ f => f)).below hB (fun _ f => f.elim))) (HB.out W hk)
          have C4 : Hid (∀ W, Kept (fun _ => False) W0 W → Calls Tryz.prog 62 #[.slice a3 m.names.length c3, .func (.func 58) #[] #[.pointer (some ⟨w.heap.size + 1, 0, none⟩), .pointer (some ⟨w.heap.size + 1 + 1, 0, none⟩)]] W fun e w' => Kept (fun _ => False) W w' ∧ e = .returned (.bool (m.tos.all (someB m.names.length)))) := fun W hk => rows62s W B _ _ m.names.length _ m.tos (rowsV_kept HT.out (k0.trans hk (fun _ _ f => f)) hB) (HB.out W hk) (HX.out W hk).2.2.2.1 (HX.out W hk).2.2.2.2
          have C5 : Hid (m.tos.all (someB m.names.length) = true → ∀ W, Kept (fun _ => False) W0 W → Calls Tryz.prog 62 #[.slice a3 m.names.length c3, .func (.func 63) #[] #[]] W fun e w' => Kept (fun _ => False) W w' ∧ e = .returned (.bool (m.tos.all (fun r => decide r.Nodup)))) := fun hq W hk => rows62d W B _ m.tos (rowsV_kept HT.out (k0.trans hk (fun _ _ f => f)) hB) (HB.out W hk) (fun r hr => by
            have := List.all_eq_true.1 hq r hr
            simp only [someB, Bool.and_eq_true, decide_eq_true_eq] at this
            omega)
          generalize m.names.all nameB = q1 at *
          generalize decide m.names.Nodup = q2 at *
          generalize m.letters.all okNum = q3 at *
          generalize m.tos.all (someB m.names.length) = q4 at *
          generalize (m.tos.all fun r => decide r.Nodup) = q5 at *
          clear HN HL HT HSZ
          obtain ⟨x0, x1, x2, x3, x4⟩ := HX.out W0 (Kept.refl _ _)
          cases q1 with
          | false =>
            simp only [Bool.false_and] at E
            go_wp2_with (first | (go_at_call 60; refine (C1.out W0 (Kept.refl _ _)).mono ?_; rintro e w1 ⟨k1, rfl⟩; have K1 := k1; clear x0 x1 x2; obtain ⟨x0, x1, x2, _, _⟩ := HX.out w1 K1))
            go_ret
            exact ⟨k0.trans K1 (fun _ _ f => f), ret_bool E.out.symm⟩
          | true =>
            cases q2 with
            | false =>
              simp only [Bool.false_and, Bool.and_false] at E
              go_wp2_with (first | (go_at_call 60; refine (C1.out W0 (Kept.refl _ _)).mono ?_; rintro e w1 ⟨k1, rfl⟩; have K1 := k1; clear x0 x1 x2; obtain ⟨x0, x1, x2, _, _⟩ := HX.out w1 K1) | (go_at_call 51; refine (C2.out w1 K1).mono ?_; rintro e w2 ⟨k2, rfl⟩; have K2 := K1.trans k2 (fun _ _ f => f); clear x0 x1 x2; obtain ⟨x0, x1, x2, _, _⟩ := HX.out w2 K2))
              go_ret
              exact ⟨k0.trans K2 (fun _ _ f => f), ret_bool E.out.symm⟩
            | true =>
              cases q3 with
              | false =>
                simp only [Bool.false_and, Bool.and_false] at E
                go_wp2_with (first | (go_at_call 60; refine (C1.out W0 (Kept.refl _ _)).mono ?_; rintro e w1 ⟨k1, rfl⟩; have K1 := k1; clear x0 x1 x2; obtain ⟨x0, x1, x2, _, _⟩ := HX.out w1 K1) | (go_at_call 51; refine (C2.out w1 K1).mono ?_; rintro e w2 ⟨k2, rfl⟩; have K2 := K1.trans k2 (fun _ _ f => f); clear x0 x1 x2; obtain ⟨x0, x1, x2, _, _⟩ := HX.out w2 K2) | (go_at_call 59; refine (C3.out w2 K2).mono ?_; rintro e w3 ⟨k3, rfl⟩; have K3 := K2.trans k3 (fun _ _ f => f); clear x0 x1 x2; obtain ⟨x0, x1, x2, _, _⟩ := HX.out w3 K3))
                go_ret
                exact ⟨k0.trans K3 (fun _ _ f => f), ret_bool E.out.symm⟩
              | true =>
                cases q4 with
                | false =>
                  simp only [Bool.false_and, Bool.and_false] at E
                  go_wp2_with (first | (go_at_call 60; refine (C1.out W0 (Kept.refl _ _)).mono ?_; rintro e w1 ⟨k1, rfl⟩; have K1 := k1; clear x0 x1 x2; obtain ⟨x0, x1, x2, _, _⟩ := HX.out w1 K1) | (go_at_call 51; refine (C2.out w1 K1).mono ?_; rintro e w2 ⟨k2, rfl⟩; have K2 := K1.trans k2 (fun _ _ f => f); clear x0 x1 x2; obtain ⟨x0, x1, x2, _, _⟩ := HX.out w2 K2) | (go_at_call 59; refine (C3.out w2 K2).mono ?_; rintro e w3 ⟨k3, rfl⟩; have K3 := K2.trans k3 (fun _ _ f => f); clear x0 x1 x2; obtain ⟨x0, x1, x2, _, _⟩ := HX.out w3 K3) | (go_at_call 62; refine (C4.out w3 K3).mono ?_; rintro e w4 ⟨k4, rfl⟩; have K4 := K3.trans k4 (fun _ _ f => f); clear x0 x1 x2; obtain ⟨x0, x1, x2, _, _⟩ := HX.out w4 K4))
                  go_ret
                  exact ⟨k0.trans K4 (fun _ _ f => f), ret_bool E.out.symm⟩
                | true =>
                  simp only [Bool.true_and] at E
                  go_wp2_with (first | (go_at_call 60; refine (C1.out W0 (Kept.refl _ _)).mono ?_; rintro e w1 ⟨k1, rfl⟩; have K1 := k1; clear x0 x1 x2; obtain ⟨x0, x1, x2, _, _⟩ := HX.out w1 K1) | (go_at_call 51; refine (C2.out w1 K1).mono ?_; rintro e w2 ⟨k2, rfl⟩; have K2 := K1.trans k2 (fun _ _ f => f); clear x0 x1 x2; obtain ⟨x0, x1, x2, _, _⟩ := HX.out w2 K2) | (go_at_call 59; refine (C3.out w2 K2).mono ?_; rintro e w3 ⟨k3, rfl⟩; have K3 := K2.trans k3 (fun _ _ f => f); clear x0 x1 x2; obtain ⟨x0, x1, x2, _, _⟩ := HX.out w3 K3) | (go_at_call 62; refine (C4.out w3 K3).mono ?_; rintro e w4 ⟨k4, rfl⟩; have K4 := K3.trans k4 (fun _ _ f => f); clear x0 x1 x2; obtain ⟨x0, x1, x2, _, _⟩ := HX.out w4 K4) | (go_at_call 62; refine (C5.out (by simp) w4 K4).mono ?_; rintro e w5 ⟨k5, rfl⟩; have K5 := K4.trans k5 (fun _ _ f => f); clear x0 x1 x2; obtain ⟨x0, x1, x2, _, _⟩ := HX.out w5 K5))
                  go_ret
                  exact ⟨k0.trans K5 (fun _ _ f => f), ret_bool E.out.symm⟩
        · have HE : Hid (fitsB m = false) := by simp [Hid, fitsB, htt]
          have g : ¬ (m.tos.length : Int) = (m.names.length : Int) := by omega
          have g2 : (m.letters.length : Int) = (m.names.length : Int) := by omega
          clear hll htt
          go_wp2
          go_ret
          exact ⟨((Kept.refl _ _).alloc _).alloc _, ret_bool HE.out.symm⟩
      · have HE : Hid (fitsB m = false) := by simp [Hid, fitsB, hll]
        have g : ¬ (m.letters.length : Int) = (m.names.length : Int) := by omega
        clear hll
        go_wp2
        go_ret
        exact ⟨((Kept.refl _ _).alloc _).alloc _, ret_bool HE.out.symm⟩
    · have HE : Hid (fitsB m = false) := by simp [Hid, fitsB, h12]
      have g12 : (m.names.length : Int) > 12 := by omega
      go_wp2
      go_ret
      exact ⟨((Kept.refl _ _).alloc _).alloc _, ret_bool HE.out.symm⟩
  · have HE : Hid (fitsB m = false) := by simp [Hid, fitsB, h0]
    have g0 : (m.names.length : Int) < 1 := by omega
    go_wp2
    go_ret
    exact ⟨((Kept.refl _ _).alloc _).alloc _, ret_bool HE.out.symm⟩
end Go.Proofs.YtdbpdanocpfboabGreatDoor
