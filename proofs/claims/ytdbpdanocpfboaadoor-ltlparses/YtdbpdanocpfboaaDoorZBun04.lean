import Derived.Test.YtdbpdanocpfboaaDoorZBun03
import Derived.WalkLawsBesides
import Derived.Deep.LoopGhost
/- The document's own answer: how a text is read; what is small. -/
namespace Go.Proofs.YtdbpdanocpfboaaDoor
open Go.RowKit

/-- the reader of a text in memory -/
structure Pst (W : World) (p : Nat) (s : ByteArray) (I D : Nat) (E A : Int) : Prop where
  c0 : W.cell? ⟨p, 0, none⟩ = some (.string s)
  c1 : W.cell? ⟨p, 1, none⟩ = some (.int .i64 (I : Int))
  c2 : W.cell? ⟨p, 2, none⟩ = some (.int .i64 (D : Int))
  c3 : W.cell? ⟨p, 3, none⟩ = some (.int .i64 E)
  c4 : W.cell? ⟨p, 4, none⟩ = some (.int .i64 A)
  f1 : W.frozen? ⟨p, 1, none⟩ = false
  f2 : W.frozen? ⟨p, 2, none⟩ = false
  f3 : W.frozen? ⟨p, 3, none⟩ = false
  f4 : W.frozen? ⟨p, 4, none⟩ = false
theorem Pst.lt {W : World} {p : Nat} {s : ByteArray} {I D : Nat} {E A : Int} (h : Pst W p s I D E A) : p < W.heap.size := lt_of_cell h.c0
theorem Pst.kept {W W' : World} {p : Nat} {s : ByteArray} {I D : Nat} {E A : Int} (h : Pst W p s I D E A) (hk : Kept (fun _ => False) W W') : Pst W' p s I D E A := by
  have hl := h.lt
  exact ⟨(hk.cell (p := ⟨p, 0, none⟩) hl (fun f => f)).trans h.c0, (hk.cell (p := ⟨p, 1, none⟩) hl (fun f => f)).trans h.c1, (hk.cell (p := ⟨p, 2, none⟩) hl (fun f => f)).trans h.c2, (hk.cell (p := ⟨p, 3, none⟩) hl (fun f => f)).trans h.c3, (hk.cell (p := ⟨p, 4, none⟩) hl (fun f => f)).trans h.c4,
    (hk.frozen (p := ⟨p, 1, none⟩) hl (fun f => f)).trans h.f1, (hk.frozen (p := ⟨p, 2, none⟩) hl (fun f => f)).trans h.f2, (hk.frozen (p := ⟨p, 3, none⟩) hl (fun f => f)).trans h.f3, (hk.frozen (p := ⟨p, 4, none⟩) hl (fun f => f)).trans h.f4⟩
theorem Pst.setI {W : World} {p : Nat} {s : ByteArray} {I D : Nat} {E A : Int} (h : Pst W p s I D E A) (J : Nat) : Pst (W.setCell ⟨p, 1, none⟩ (.int .i64 (J : Int))) p s J D E A := by
  obtain ⟨c0, c1, c2, c3, c4, f1, f2, f3, f4⟩ := h
  refine ⟨?_, ?_, ?_, ?_, ?_, ?_, ?_, ?_, ?_⟩ <;> simp [go_sem, c0, c1, c2, c3, c4, f1, f2, f3, f4]
theorem Pst.setD {W : World} {p : Nat} {s : ByteArray} {I D : Nat} {E A : Int} (h : Pst W p s I D E A) (J : Nat) : Pst (W.setCell ⟨p, 2, none⟩ (.int .i64 (J : Int))) p s I J E A := by
  obtain ⟨c0, c1, c2, c3, c4, f1, f2, f3, f4⟩ := h
  refine ⟨?_, ?_, ?_, ?_, ?_, ?_, ?_, ?_, ?_⟩ <;> simp [go_sem, c0, c1, c2, c3, c4, f1, f2, f3, f4]
theorem Pst.setE {W : World} {p : Nat} {s : ByteArray} {I D : Nat} {E A : Int} (h : Pst W p s I D E A) (x y : Int) : Pst ((W.setCell ⟨p, 3, none⟩ (.int .i64 x)).setCell ⟨p, 4, none⟩ (.int .i64 y)) p s I D x y := by
  obtain ⟨c0, c1, c2, c3, c4, f1, f2, f3, f4⟩ := h
  refine ⟨?_, ?_, ?_, ?_, ?_, ?_, ?_, ?_, ?_⟩ <;> simp [go_sem, c0, c1, c2, c3, c4, f1, f2, f3, f4]

theorem byteN_get {s : ByteArray} {i : Nat} (h : i < s.size) : byteN s i = (s[i]).toNat := by
  have h' : i < s.data.size := h
  have : s[i] = s.data[i] := rfl
  simp [byteN, Array.getD, h, this]
theorem byteN_lt (s : ByteArray) (i : Nat) : byteN s i < 256 := by
  unfold byteN
  exact UInt8.toNat_lt _
/-- a byte, held against another one -/
theorem byteN_eq {s : ByteArray} {i : Nat} (h : i < s.size) (c : Nat) : (((s[i]).toNat : Int) == (c : Int)) = decide (byteN s i = c) := by
  rw [byteN_get h]
  by_cases e : (s[i]).toNat = c
  · simp [e]
  · have : ¬ (((s[i]).toNat : Int) = (c : Int)) := by omega
    simp [e, this]
theorem Pst.keptS {W W' : World} {p : Nat} {s : ByteArray} {I D : Nat} {E A : Int} {S : Nat → Prop} (h : Pst W p s I D E A) (hk : Kept S W W') (hp : ¬ S p) : Pst W' p s I D E A := by
  have hl := h.lt
  exact ⟨(hk.cell (p := ⟨p, 0, none⟩) hl hp).trans h.c0, (hk.cell (p := ⟨p, 1, none⟩) hl hp).trans h.c1, (hk.cell (p := ⟨p, 2, none⟩) hl hp).trans h.c2, (hk.cell (p := ⟨p, 3, none⟩) hl hp).trans h.c3, (hk.cell (p := ⟨p, 4, none⟩) hl hp).trans h.c4,
    (hk.frozen (p := ⟨p, 1, none⟩) hl hp).trans h.f1, (hk.frozen (p := ⟨p, 2, none⟩) hl hp).trans h.f2, (hk.frozen (p := ⟨p, 3, none⟩) hl hp).trans h.f3, (hk.frozen (p := ⟨p, 4, none⟩) hl hp).trans h.f4⟩

set_option maxRecDepth 100000 in
set_option maxHeartbeats 2000000 in
theorem blanks47 (w : World) (p : Nat) (s : ByteArray) (i D : Nat) (E A : Int) (h : Pst w p s i D E A) (hi : i ≤ s.size) (hs : s.size ≤ 200) :
    Calls Tryd.prog 47 #[.pointer (some ⟨p, 0, none⟩)] w fun e w' => e = .returned (.tuple #[]) ∧ Pst w' p s (skipB s i) D E A ∧ Kept (fun k => k = p) w w' := by
  have H : Hid (Pst w p s i D E A) := h
  clear h
  go_enter Tryd.func47, Tryd.ntmps47
  go_wp2_with fail
  go_loopg [] (s.size - i) (fun k wr => ∃ I, Pst wr p s I D E A ∧ I ≤ s.size ∧ skipB s I = skipB s i ∧ s.size - I = k ∧ Kept (fun k => k = p) w wr)
  case atStart => exact ⟨i, H.out, hi, rfl, rfl, Kept.refl _ _⟩
  case round =>
    obtain ⟨I, hp, hI, hsk, hk, hkw⟩ := hrel
    have HP : Hid (Pst wr p s I D E A) := hp
    obtain ⟨c0, c1, c2, c3, c4, f1, f2, f3, f4⟩ := hp
    by_cases hlt : I < s.size
    · have hlti : (I : Int) < (s.size : Int) := by omega
      by_cases hb : byteN s I = 32
      · have hb' : (((s[I]).toNat : Int) == 32) = true := by rw [show (32 : Int) = ((32 : Nat) : Int) from rfl, byteN_eq hlt]; simp [hb]
        have HN : Hid (skipB s (I + 1) = skipB s i) := by rw [Hid, ← hsk, skipB_next hlt hb]
        have HK : Hid (s.size - I = gk) := hk
        clear hb hsk hk
        go_upto_region 0 with fail
        go_quiet (fail)
        have HP1 : Hid (Pst (wr.drewN nq) p s I D E A) := HP.out.kept ((Kept.refl _ _).drewN _)
        have k1 : Kept (fun k => k = p) w (wr.drewN nq) := hkw.drewN _
        have HP2 : Hid (Pst ((wr.drewN nq).setCell ⟨p, 1, none⟩ (.int .i64 ((I + 1 : Nat) : Int))) p s (I + 1) D E A) := HP1.out.setI (I + 1)
        have k2 : Kept (fun k => k = p) w ((wr.drewN nq).setCell ⟨p, 1, none⟩ (.int .i64 ((I + 1 : Nat) : Int))) := k1.setCell (p := ⟨p, 1, none⟩) (fun _ => rfl) _
        obtain ⟨d0, d1, d2, d3, d4, g1, g2, g3, g4⟩ := HP1.out
        clear c0 c1 c2 c3 c4 f1 f2 f3 f4 hkw k1
        generalize wr.drewN nq = W1 at *
        have hin : wrap64 ((I : Int) + 1) = ((I + 1 : Nat) : Int) := by unfold wrap64; omega
        go_wp2
        go_roundg (s.size - (I + 1))
        case measure => have := HK.out; omega
        case rel => exact ⟨I + 1, by simpa using HP2.out, by omega, HN.out, rfl, by simpa using k2⟩
      · have hb' : (((s[I]).toNat : Int) == 32) = false := by rw [show (32 : Int) = ((32 : Nat) : Int) from rfl, byteN_eq hlt]; simp [hb]
        have HN : Hid (skipB s i = I) := by rw [Hid, ← hsk, skipB_stay (fun h => hb h.2)]
        clear hb hsk hk
        go_upto_region 0 with fail
        go_quiet (fail)
        have HP1 : Hid (Pst (wr.drewN nq) p s I D E A) := HP.out.kept ((Kept.refl _ _).drewN _)
        have k1 : Kept (fun k => k = p) w (wr.drewN nq) := hkw.drewN _
        go_wp2
        go_end0
        rw [HN.out]
        exact ⟨rfl, HP1.out, k1⟩
    · have hlti : ¬ (I : Int) < (s.size : Int) := by omega
      have HN : Hid (skipB s i = I) := by rw [Hid, ← hsk, skipB_stay (fun h => hlt h.1)]
      clear hsk hk
      go_upto_region 0 with fail
      go_quiet (fail)
      have HP1 : Hid (Pst (wr.drewN nq) p s I D E A) := HP.out.kept ((Kept.refl _ _).drewN _)
      have k1 : Kept (fun k => k = p) w (wr.drewN nq) := hkw.drewN _
      go_wp2
      go_end0
      rw [HN.out]
      exact ⟨rfl, HP1.out, k1⟩

set_option maxHeartbeats 1000000 in
theorem fail48_ok (w : World) (p : Nat) (s : ByteArray) (i D : Nat) (A : Int) (x y : Int) (h : Pst w p s i D 0 A) :
    Calls Tryd.prog 48 #[.pointer (some ⟨p, 0, none⟩), .int .i64 x, .int .i64 y] w fun e w' => e = .returned (.tuple #[]) ∧ Pst w' p s i D x y ∧ Kept (fun k => k = p) w w' := by
  have HP := h.setE x y
  have HK : Kept (fun k => k = p) w ((w.setCell ⟨p, 3, none⟩ (.int .i64 x)).setCell ⟨p, 4, none⟩ (.int .i64 y)) := ((Kept.refl (fun k => k = p) w).setCell (p := ⟨p, 3, none⟩) (fun _ => rfl) _).setCell (p := ⟨p, 4, none⟩) (fun _ => rfl) _
  have H : Hid (Pst ((w.setCell ⟨p, 3, none⟩ (.int .i64 x)).setCell ⟨p, 4, none⟩ (.int .i64 y)) p s i D x y ∧ Kept (fun k => k = p) w ((w.setCell ⟨p, 3, none⟩ (.int .i64 x)).setCell ⟨p, 4, none⟩ (.int .i64 y))) := ⟨HP, HK⟩
  obtain ⟨c0, c1, c2, c3, c4, f1, f2, f3, f4⟩ := h
  clear HP HK
  go_enter Tryd.func48, Tryd.ntmps48
  go_wp2
  go_end0
  exact ⟨rfl, H.out⟩
set_option maxHeartbeats 1000000 in
theorem fail48_no (w : World) (p : Nat) (s : ByteArray) (i D : Nat) (E A : Int) (x y : Int) (hE : E ≠ 0) (h : Pst w p s i D E A) :
    Calls Tryd.prog 48 #[.pointer (some ⟨p, 0, none⟩), .int .i64 x, .int .i64 y] w fun e w' => e = .returned (.tuple #[]) ∧ Pst w' p s i D E A ∧ Kept (fun k => k = p) w w' := by
  have H : Hid (Pst w p s i D E A) := h
  obtain ⟨c0, c1, c2, c3, c4, f1, f2, f3, f4⟩ := h
  have hE' : (E == 0) = false := by simpa using hE
  clear hE
  go_enter Tryd.func48, Tryd.ntmps48
  go_wp2
  go_end0
  exact ⟨rfl, H.out, Kept.refl _ _⟩

set_option maxRecDepth 100000 in
set_option maxHeartbeats 2000000 in
theorem is121_no (w : World) (p : Nat) (s : ByteArray) (i D : Nat) (E A : Int) (c : Nat) (hE : E ≠ 0) (h : Pst w p s i D E A) (hi : i ≤ s.size) (hs : s.size ≤ 200) :
    Calls Tryd.prog 121 #[.pointer (some ⟨p, 0, none⟩), .int .u8 (c : Int)] w fun e w' => e = .returned (.bool false) ∧ Pst w' p s (skipB s i) D E A ∧ Kept (fun k => k = p) w w' := by
  have H : Hid (Pst w p s i D E A) := h
  have hE' : (E == 0) = false := by simpa using hE
  clear h hE
  go_enter Tryd.func121, Tryd.ntmps121
  go_upto_region 2 with (go_at_call 47; refine (blanks47 _ p s i D E A H.out hi hs).mono ?_; rintro e w2 ⟨rfl, hp, hk⟩)
  have HP : Hid (Pst w2 p s (skipB s i) D E A) := hp
  obtain ⟨c0, c1, c2, c3, c4, f1, f2, f3, f4⟩ := hp
  go_quiet (fail)
  go_wp2
  go_ret
  exact ⟨rfl, HP.out.kept ((Kept.refl _ _).drewN _), hk.drewN _⟩
set_option maxRecDepth 100000 in
set_option maxHeartbeats 2000000 in
theorem is121 (w : World) (p : Nat) (s : ByteArray) (i D : Nat) (A : Int) (c : Nat) (hc : c ≠ 0) (h : Pst w p s i D 0 A) (hi : i ≤ s.size) (hs : s.size ≤ 200) :
    Calls Tryd.prog 121 #[.pointer (some ⟨p, 0, none⟩), .int .u8 (c : Int)] w fun e w' => e = .returned (.bool (decide (byteN s (skipB s i) = c))) ∧ Pst w' p s (skipB s i) D 0 A ∧ Kept (fun k => k = p) w w' := by
  have H : Hid (Pst w p s i D 0 A) := h
  have htop := skipB_top (s := s) hi
  generalize hj : skipB s i = j at *
  have HJ : Hid (skipB s i = j) := hj
  clear h hj
  go_enter Tryd.func121, Tryd.ntmps121
  go_upto_region 2 with (go_at_call 47; refine (blanks47 _ p s i D 0 A H.out hi hs).mono ?_; rintro e w2 ⟨rfl, hp, hk⟩; rw [HJ.out] at hp)
  have HP : Hid (Pst w2 p s j D 0 A) := hp
  obtain ⟨c0, c1, c2, c3, c4, f1, f2, f3, f4⟩ := hp
  by_cases hlt : j < s.size
  · have hlti : (j : Int) < (s.size : Int) := by omega
    have HB : Hid ((((s[j]).toNat : Int) == (c : Int)) = decide (byteN s j = c)) := byteN_eq hlt c
    go_quiet (fail)
    go_wp2
    go_ret
    exact ⟨congrArg (fun x => Ending.returned (.bool x)) HB.out, HP.out.kept ((Kept.refl _ _).drewN _), hk.drewN _⟩
  · have hlti : ¬ (j : Int) < (s.size : Int) := by omega
    have HB : Hid (decide (byteN s j = c) = false) := by
      rw [Hid, byteN_end (by omega)]
      simpa using fun e => hc e.symm
    go_quiet (fail)
    go_wp2
    go_ret
    rw [HB.out]
    exact ⟨rfl, HP.out.kept ((Kept.refl _ _).drewN _), hk.drewN _⟩
set_option maxHeartbeats 1000000 in
theorem has77_no (w : World) (p : Nat) (s : ByteArray) (i D : Nat) (E A : Int) (c : Nat) (hE : E ≠ 0) (h : Pst w p s i D E A) (hi : i ≤ s.size) (hs : s.size ≤ 200) :
    Calls Tryd.prog 77 #[.pointer (some ⟨p, 0, none⟩), .int .u8 (c : Int)] w fun e w' => e = .returned (.bool false) ∧ Pst w' p s (skipB s i) D E A ∧ Kept (fun k => k = p) w w' := by
  have H : Hid (Pst w p s i D E A) := h
  clear h
  go_enter Tryd.func77, Tryd.ntmps77
  go_wp2_with (go_at_call 121; refine (is121_no _ p s i D E A c hE H.out hi hs).mono ?_; rintro e w2 ⟨rfl, hp, hk⟩)
  go_ret
  exact ⟨rfl, hp, hk⟩
/-- a byte that stands there is taken -/
theorem has77_yes (w : World) (p : Nat) (s : ByteArray) (i D : Nat) (A : Int) (c : Nat) (hc : c ≠ 0) (hy : byteN s (skipB s i) = c) (h : Pst w p s i D 0 A) (hi : i ≤ s.size) (hs : s.size ≤ 200) :
    Calls Tryd.prog 77 #[.pointer (some ⟨p, 0, none⟩), .int .u8 (c : Int)] w fun e w' => e = .returned (.bool true) ∧ Pst w' p s (skipB s i + 1) D 0 A ∧ Kept (fun k => k = p) w w' := by
  have H : Hid (Pst w p s i D 0 A) := h
  have HY : Hid (decide (byteN s (skipB s i) = c) = true) := by rw [Hid, decide_eq_true_eq]; exact hy
  have htop := skipB_top (s := s) hi
  generalize hj : skipB s i = j at *
  have HJ : Hid (skipB s i = j) := hj
  clear h hy hj
  go_enter Tryd.func77, Tryd.ntmps77
  go_upto_region 2 with (go_at_call 121; refine (is121 _ p s i D A c hc H.out hi hs).mono ?_; rw [HJ.out]; rintro e w2 ⟨rfl, hp, hk⟩; rw [HY.out])
  have HP : Hid (Pst (w2.setCell ⟨p, 1, none⟩ (.int .i64 ((j + 1 : Nat) : Int))) p s (j + 1) D 0 A) := hp.setI _
  have HK : Hid (Kept (fun k => k = p) w (w2.setCell ⟨p, 1, none⟩ (.int .i64 ((j + 1 : Nat) : Int)))) := hk.setCell (p := ⟨p, 1, none⟩) (fun _ => rfl) _
  obtain ⟨c0, c1, c2, c3, c4, f1, f2, f3, f4⟩ := hp
  have hin : wrap64 ((j : Int) + 1) = ((j + 1 : Nat) : Int) := by unfold wrap64; omega
  clear hk HY
  go_wp2
  go_ret
  exact ⟨rfl, by simpa using HP.out, by simpa using HK.out⟩
theorem has77_not (w : World) (p : Nat) (s : ByteArray) (i D : Nat) (A : Int) (c : Nat) (hc : c ≠ 0) (hy : byteN s (skipB s i) ≠ c) (h : Pst w p s i D 0 A) (hi : i ≤ s.size) (hs : s.size ≤ 200) :
    Calls Tryd.prog 77 #[.pointer (some ⟨p, 0, none⟩), .int .u8 (c : Int)] w fun e w' => e = .returned (.bool false) ∧ Pst w' p s (skipB s i) D 0 A ∧ Kept (fun k => k = p) w w' := by
  have H : Hid (Pst w p s i D 0 A) := h
  have HY : Hid (decide (byteN s (skipB s i) = c) = false) := by simpa [Hid] using hy
  clear h hy
  go_enter Tryd.func77, Tryd.ntmps77
  go_wp2_with (go_at_call 121; refine (is121 _ p s i D A c hc H.out hi hs).mono ?_; rintro e w2 ⟨rfl, hp, hk⟩; rw [HY.out])
  go_ret
  exact ⟨rfl, hp, hk⟩
/-- the Op of a sign ahead of one; none: -1 -/
def sigR (c : Nat) : Int := (ahd c).getD (-1)
theorem sign137 (w : World) (c : Nat) (_hc : c < 256) : Calls Tryd.prog 137 #[.int .u8 (c : Int)] w fun e w' => e = .returned (.int .i64 (sigR c)) ∧ w' = w := by
  by_cases h1 : c = 33
  · subst h1
    go_enter Tryd.func137, Tryd.ntmps137
    go_wp2
    go_ret
    exact ⟨rfl, rfl⟩
  by_cases h2 : c = 88
  · subst h2
    go_enter Tryd.func137, Tryd.ntmps137
    go_wp2
    go_ret
    exact ⟨rfl, rfl⟩
  by_cases h3 : c = 70
  · subst h3
    go_enter Tryd.func137, Tryd.ntmps137
    go_wp2
    go_ret
    exact ⟨rfl, rfl⟩
  by_cases h4 : c = 71
  · subst h4
    go_enter Tryd.func137, Tryd.ntmps137
    go_wp2
    go_ret
    exact ⟨rfl, rfl⟩
  have HS : Hid (sigR c = -1) := by simp [Hid, sigR, ahd, h1, h2, h3, h4]
  have e1 : ((c : Int) == 33) = false := by simp; omega
  have e2 : ((c : Int) == 88) = false := by simp; omega
  have e3 : ((c : Int) == 70) = false := by simp; omega
  have e4 : ((c : Int) == 71) = false := by simp; omega
  clear h1 h2 h3 h4
  go_enter Tryd.func137, Tryd.ntmps137
  go_wp2
  go_ret
  rw [HS.out]
  exact ⟨rfl, rfl⟩
end Go.Proofs.YtdbpdanocpfboaaDoor

/- The document's own answer: how a text is read; a word. -/
namespace Go.Proofs.YtdbpdanocpfboaaDoor
open Go.RowKit

/-- what a reader's call says of an answer -/
def PostR (w : World) (p : Nat) (s : ByteArray) (D : Nat) (A : Int) (r : PRes) (v : Value) (w' : World) : Prop := Kept (fun k => k = p) w w' ∧ match r with
  | .ok t j => Pst w' p s j D 0 A ∧ RVS (fun b => w.heap.size ≤ b ∧ b < w'.heap.size) w' v t
  | .err x a => (∃ I, Pst w' p s I D x (a : Int) ∧ I ≤ s.size) ∧ ∃ op n ka kl kc, v = .agg #[.int .i64 op, .int .i64 n, .slice ka kl kc]

theorem str_eq (b : ByteArray) (l : List UInt8) : (b.toList == l) = decide (b = ⟨l.toArray⟩) := by
  rw [Go.ByteArray.toList_eq]
  by_cases h : b = ⟨l.toArray⟩
  · subst h; simp
  · have : b.data.toList ≠ l := fun e => h (data_eq (by rw [e]))
    simp [h, this]
theorem Wb3.keptS {W W' : World} {b : Nat} {x y z : Value} {S : Nat → Prop} (h : Wb3 W b x y z) (hk : Kept S W W') (hb : ¬ S b) : Wb3 W' b x y z := by
  obtain ⟨h0, ⟨h1, h2, h3⟩, h4, h5, h6⟩ := h
  exact ⟨Nat.lt_of_lt_of_le h0 hk.size, ⟨(hk.cell (p := ⟨b, 0, none⟩) h0 hb).trans h1, (hk.cell (p := ⟨b, 1, none⟩) h0 hb).trans h2, (hk.cell (p := ⟨b, 2, none⟩) h0 hb).trans h3⟩, (hk.frozen (p := ⟨b, 0, none⟩) h0 hb).trans h4, (hk.frozen (p := ⟨b, 1, none⟩) h0 hb).trans h5, (hk.frozen (p := ⟨b, 2, none⟩) h0 hb).trans h6⟩
/-- how the word from i to I reads -/
theorem wordR_cases (s : ByteArray) (i I : Nat) (hI : wendB s i = I) :
    (((s.extract i I).toList == [116, 114, 117, 101]) = true ∧ wordR s i = .ok (.mk 0 0 []) I) ∨
    (((s.extract i I).toList == [116, 114, 117, 101]) = false ∧ ((s.extract i I).toList == [102, 97, 108, 115, 101]) = true ∧ wordR s i = .ok (.mk 1 0 []) I) ∨
    (((s.extract i I).toList == [116, 114, 117, 101]) = false ∧ ((s.extract i I).toList == [102, 97, 108, 115, 101]) = false ∧ I ≠ i + 1 ∧ wordR s i = .err 2 i) ∨
    (((s.extract i I).toList == [116, 114, 117, 101]) = false ∧ ((s.extract i I).toList == [102, 97, 108, 115, 101]) = false ∧ I = i + 1 ∧ 97 ≤ byteN s i ∧ ((104 < byteN s i ∧ wordR s i = .err 2 i) ∨ (byteN s i ≤ 104 ∧ wordR s i = .ok (.mk 2 ((byteN s i : Int) - 97) []) I))) := by
  rw [str_eq, str_eq]
  have hw : wordR s i = if s.extract i I = ⟨#[116, 114, 117, 101]⟩ then .ok (.mk 0 0 []) I else if s.extract i I = ⟨#[102, 97, 108, 115, 101]⟩ then .ok (.mk 1 0 []) I else if I = i + 1 ∧ byteN s i ≤ 104 then .ok (.mk 2 ((byteN s i : Int) - 97) []) I else .err 2 i := by
    unfold wordR
    simp only [hI]
  rw [hw]
  by_cases h1 : s.extract i I = ⟨#[116, 114, 117, 101]⟩
  · exact .inl ⟨by simp [h1], by rw [if_pos h1]⟩
  · rw [if_neg h1]
    by_cases h2 : s.extract i I = ⟨#[102, 97, 108, 115, 101]⟩
    · exact .inr (.inl ⟨by simpa using h1, by simp [h2], by rw [if_pos h2]⟩)
    · rw [if_neg h2]
      by_cases h3 : I = i + 1
      · have hl : i < s.size ∧ letB (byteN s i) := by
          apply Classical.byContradiction
          intro hn
          have := wendB_stay hn
          omega
        have h97 : 97 ≤ byteN s i := hl.2.1
        by_cases h4 : byteN s i ≤ 104
        · exact .inr (.inr (.inr ⟨by simpa using h1, by simpa using h2, h3, h97, .inr ⟨h4, by rw [if_pos ⟨h3, h4⟩]⟩⟩))
        · exact .inr (.inr (.inr ⟨by simpa using h1, by simpa using h2, h3, h97, .inl ⟨by omega, by rw [if_neg (fun h => h4 h.2)]⟩⟩))
      · exact .inr (.inr (.inl ⟨by simpa using h1, by simpa using h2, h3, by rw [if_neg (fun h => h3 h.1)]⟩))
/-- behind a word: what is answered lies in the box -/
theorem word_post {w w1 W : World} {p r : Nat} {s : ByteArray} {I D : Nat} {A : Int} {op n : Int} (k1 : Kept (fun _ => False) w w1) (k2 : Kept (fun k => k = p) w1 W) (hr : r = w.heap.size) (hpl : p < w.heap.size) (hP : Pst W p s I D 0 A) (x y z : Value) :
    PostR w p s D A (.ok (.mk op n []) I) (.agg #[.int .i64 op, .int .i64 n, .slice none 0 0]) (((W.setCell ⟨r, 0, none⟩ x).setCell ⟨r, 1, none⟩ y).setCell ⟨r, 2, none⟩ z) := by
  have hk : Kept (fun k => k = r) W (((W.setCell ⟨r, 0, none⟩ x).setCell ⟨r, 1, none⟩ y).setCell ⟨r, 2, none⟩ z) := (((Kept.refl (fun k => k = r) W).setCell (p := ⟨r, 0, none⟩) (fun _ => rfl) _).setCell (p := ⟨r, 1, none⟩) (fun _ => rfl) _).setCell (p := ⟨r, 2, none⟩) (fun _ => rfl) _
  refine ⟨((k1.mono (T := fun k => k = p) (fun _ _ f => f.elim)).trans k2 (fun _ _ e => e)).trans hk (fun k hk e => by omega), hP.keptS hk (by omega), RVS.leaf _ _ _ _⟩
theorem word_err {w w1 W : World} {p r : Nat} {s : ByteArray} {I D : Nat} {A : Int} {e a : _} (k1 : Kept (fun _ => False) w w1) (k2 : Kept (fun k => k = p) w1 W) (hr : r = w.heap.size) (hpl : p < w.heap.size) (hP : Pst W p s I D e ((a : Nat) : Int)) (hI : I ≤ s.size) (x y z : Value) :
    PostR w p s D A (.err e a) (.agg #[.int .i64 0, .int .i64 0, .slice none 0 0]) (((W.setCell ⟨r, 0, none⟩ x).setCell ⟨r, 1, none⟩ y).setCell ⟨r, 2, none⟩ z) := by
  have hk : Kept (fun k => k = r) W (((W.setCell ⟨r, 0, none⟩ x).setCell ⟨r, 1, none⟩ y).setCell ⟨r, 2, none⟩ z) := (((Kept.refl (fun k => k = r) W).setCell (p := ⟨r, 0, none⟩) (fun _ => rfl) _).setCell (p := ⟨r, 1, none⟩) (fun _ => rfl) _).setCell (p := ⟨r, 2, none⟩) (fun _ => rfl) _
  exact ⟨((k1.mono (T := fun k => k = p) (fun _ _ f => f.elim)).trans k2 (fun _ _ e => e)).trans hk (fun k hk e => by omega), ⟨I, hP.keptS hk (by omega), hI⟩, _, _, _, _, _, rfl⟩

set_option maxRecDepth 100000 in
set_option maxHeartbeats 4000000 in
theorem word138 (w : World) (p : Nat) (s : ByteArray) (i D : Nat) (A : Int) (h : Pst w p s i D 0 A) (hi : i ≤ s.size) (hs : s.size ≤ 200) :
    Calls Tryd.prog 138 #[.pointer (some ⟨p, 0, none⟩)] w fun e w' => ∃ v, e = .returned v ∧ PostR w p s D A (wordR s i) v w' := by
  obtain ⟨w1, hw1⟩ : ∃ w1, w1 = w.alloc (.cells #[.int .i64 0, .int .i64 0, .slice none 0 0] 30) := ⟨_, rfl⟩
  have k1 : Kept (fun _ => False) w w1 := by rw [hw1]; exact (Kept.refl _ _).alloc _
  have hr : Wb3 w1 w.heap.size (.int .i64 0) (.int .i64 0) (.slice none 0 0) := by rw [hw1]; exact Wb3.new _ _ _ _ _
  have H : Hid (Pst w1 p s i D 0 A) := h.kept k1
  have hpl := h.lt
  go_enter Tryd.func138, Tryd.ntmps138
  go_upto_region 1 with fail
  rw [← hw1]
  clear hw1 h
  obtain ⟨c0, c1, c2, c3, c4, f1, f2, f3, f4⟩ := id H.out
  go_wp2_with fail
  clear c0 c1 c2 c3 c4 f1 f2 f3 f4
  go_loopg [] (s.size - i) (fun k wr => ∃ I, Pst wr p s I D 0 A ∧ i ≤ I ∧ I ≤ s.size ∧ wendB s I = wendB s i ∧ s.size - I = k ∧ Kept (fun k => k = p) w1 wr)
  case atStart => exact ⟨i, H.out, Nat.le_refl _, hi, rfl, rfl, Kept.refl _ _⟩
  case round =>
    obtain ⟨I, hp, hiI, hI, hsk, hk, hkw⟩ := hrel
    have HP : Hid (Pst wr p s I D 0 A) := hp
    obtain ⟨c0, c1, c2, c3, c4, f1, f2, f3, f4⟩ := hp
    by_cases hlt : I < s.size ∧ letB (byteN s I)
    · obtain ⟨hlt, hb⟩ := hlt
      have hlti : (I : Int) < (s.size : Int) := by omega
      have HN : Hid (wendB s (I + 1) = wendB s i) := by rw [Hid, ← hsk, wendB_next hlt hb]
      have HK : Hid (s.size - I = gk) := hk
      unfold letB at hb
      rw [byteN_get hlt] at hb
      have hb1 : (97 : Int) ≤ ((s[I]).toNat : Int) := by omega
      have hb2 : ((s[I]).toNat : Int) ≤ 122 := by omega
      clear hb hsk hk
      go_upto_region 2 with fail
      go_quiet (fail)
      have HP1 : Hid (Pst (wr.drewN nq) p s I D 0 A) := HP.out.kept ((Kept.refl _ _).drewN _)
      have k1' : Kept (fun k => k = p) w1 (wr.drewN nq) := hkw.drewN _
      have HP2 : Hid (Pst ((wr.drewN nq).setCell ⟨p, 1, none⟩ (.int .i64 ((I + 1 : Nat) : Int))) p s (I + 1) D 0 A) := HP1.out.setI (I + 1)
      have k2 : Kept (fun k => k = p) w1 ((wr.drewN nq).setCell ⟨p, 1, none⟩ (.int .i64 ((I + 1 : Nat) : Int))) := k1'.setCell (p := ⟨p, 1, none⟩) (fun _ => rfl) _
      obtain ⟨d0, d1, d2, d3, d4, g1, g2, g3, g4⟩ := HP1.out
      clear c0 c1 c2 c3 c4 f1 f2 f3 f4 hkw k1'
      generalize wr.drewN nq = W1 at *
      have hin : wrap64 ((I : Int) + 1) = ((I + 1 : Nat) : Int) := by unfold wrap64; omega
      go_wp2
      go_roundg (s.size - (I + 1))
      case measure => have := HK.out; omega
      case rel => exact ⟨I + 1, by simpa using HP2.out, by omega, by omega, HN.out, rfl, by simpa using k2⟩
    · have HN : Hid (wendB s i = I) := by rw [Hid, ← hsk, wendB_stay hlt]
      have hcase : ¬ (I : Int) < (s.size : Int) ∨ ∃ h : I < s.size, (I : Int) < (s.size : Int) ∧ (¬ (97 : Int) ≤ ((s[I]).toNat : Int) ∨ ((97 : Int) ≤ ((s[I]).toNat : Int) ∧ ¬ ((s[I]).toNat : Int) ≤ 122)) := by
        by_cases h1 : I < s.size
        · refine .inr ⟨h1, by omega, ?_⟩
          have h2 : ¬ letB (byteN s I) := fun h => hlt ⟨h1, h⟩
          unfold letB at h2
          rw [byteN_get h1] at h2
          omega
        · exact .inl (by omega)
      have hiIi : (i : Int) ≤ (I : Int) := by omega
      clear hsk hk hlt
      have hwc := wordR_cases s i I HN.out
      have hsz : (s.extract i I).size = I - i := size_extract hI
      have hb0 : I = i + 1 → ∀ h : 0 < (s.extract i I).size, ((s.extract i I)[0]'h).toNat = byteN s i := fun e h => by
        have hl : i < s.size := by omega
        rw [byteN_get hl]
        congr 1
        simp [ByteArray.getElem_extract]
      have HB0 : Hid (I = i + 1 → ∀ h : 0 < (s.extract i I).size, ((s.extract i I)[0]'h).toNat = byteN s i) := hb0
      have HSZ : Hid ((s.extract i I).size = I - i) := hsz
      clear hb0 hsz
      rcases hcase with hl1 | ⟨hl0, hl1, hl2 | ⟨hl2, hl3⟩⟩
      all_goals as_aux_lemma =>
        go_upto_region 2 with fail
        go_quiet (fail)
        have HP1 : Hid (Pst (wr.drewN nq) p s I D 0 A) := HP.out.kept ((Kept.refl _ _).drewN _)
        have k2 : Kept (fun k => k = p) w1 (wr.drewN nq) := hkw.drewN _
        obtain ⟨d0, d1, d2, d3, d4, g1, g2, g3, g4⟩ := id HP1.out
        clear c0 c1 c2 c3 c4 f1 f2 f3 f4 hkw
        generalize wr.drewN nq = W1 at *
        go_upto_region 4 with fail
        go_quiet (fail)
        have HP2 : Hid (Pst (W1.drewN nq) p s I D 0 A) := HP1.out.kept ((Kept.refl _ _).drewN _)
        have k3 : Kept (fun k => k = p) w1 (W1.drewN nq) := k2.drewN _
        clear d0 d1 d2 d3 d4 g1 g2 g3 g4 k2
        generalize W1.drewN nq = W2 at *
        have hr2 : Wb3 W2 w.heap.size (.int .i64 0) (.int .i64 0) (.slice none 0 0) := hr.keptS k3 (by omega)
        obtain ⟨_, ⟨b0, b1, b2⟩, h0, h1, h2⟩ := id hr2
        rcases hwc with ⟨t1, hw⟩ | ⟨t1, t2, hw⟩ | ⟨t1, t2, hne, hw⟩ | ⟨t1, t2, he, h97, ⟨h104, hw⟩ | ⟨h104, hw⟩⟩
        · have HW : Hid _ := hw
          clear hw
          go_wp2
          refine bodyPost_ret (v := .agg #[.int .i64 0, .int .i64 0, .slice none 0 0]) (by simp [results, Tryd.results138, go_sem, b0, b1, b2]) rfl ⟨_, rfl, ?_⟩
          rw [HW.out]
          exact word_post k1 k3 rfl hpl HP2.out _ _ _
        · have HW : Hid _ := hw
          clear hw
          go_wp2
          refine bodyPost_ret (v := .agg #[.int .i64 1, .int .i64 0, .slice none 0 0]) (by simp [results, Tryd.results138, go_sem, b0, b1, b2]) rfl ⟨_, rfl, ?_⟩
          rw [HW.out]
          exact word_post k1 k3 rfl hpl HP2.out _ _ _
        · have HW : Hid _ := hw
          have hq : ¬ ((I - i : Nat) : Int) = 1 := by omega
          clear hw hne
          go_upto_region 11 with (go_at_call 48; refine (fail48_ok _ p s I D A 2 (i : Int) HP2.out).mono ?_; rintro e w5 ⟨rfl, hp5, k5⟩)
          have HP5 : Hid (Pst w5 p s I D 2 (i : Int)) := hp5
          have hr5 : Wb3 w5 w.heap.size (.int .i64 0) (.int .i64 0) (.slice none 0 0) := hr2.keptS k5 (by omega)
          have k35 : Kept (fun k => k = p) w1 w5 := k3.trans k5 (fun _ _ e => e)
          clear b0 b1 b2 h0 h1 h2 hp5
          obtain ⟨_, ⟨b0, b1, b2⟩, h0, h1, h2⟩ := id hr5
          go_wp2
          refine bodyPost_ret (v := .agg #[.int .i64 0, .int .i64 0, .slice none 0 0]) (by simp [results, Tryd.results138, go_sem, b0, b1, b2]) rfl ⟨_, rfl, ?_⟩
          rw [HW.out]
          exact word_err k1 k35 rfl hpl HP5.out hI _ _ _
        · have HW : Hid _ := hw
          have hl1' : (s.extract i I).size = 1 := by have := HSZ.out; omega
          have hq : ((I - i : Nat) : Int) = 1 := by omega
          have hx := HB0.out he (by omega)
          have hgt : ¬ (((s.extract i I)[0]'(by omega)).toNat : Int) ≤ 104 := by rw [hx]; omega
          clear hw he hx h104
          go_upto_region 11 with (go_at_call 48; refine (fail48_ok _ p s I D A 2 (i : Int) HP2.out).mono ?_; rintro e w5 ⟨rfl, hp5, k5⟩)
          have HP5 : Hid (Pst w5 p s I D 2 (i : Int)) := hp5
          have hr5 : Wb3 w5 w.heap.size (.int .i64 0) (.int .i64 0) (.slice none 0 0) := hr2.keptS k5 (by omega)
          have k35 : Kept (fun k => k = p) w1 w5 := k3.trans k5 (fun _ _ e => e)
          clear b0 b1 b2 h0 h1 h2 hp5
          obtain ⟨_, ⟨b0, b1, b2⟩, h0, h1, h2⟩ := id hr5
          go_wp2
          refine bodyPost_ret (v := .agg #[.int .i64 0, .int .i64 0, .slice none 0 0]) (by simp [results, Tryd.results138, go_sem, b0, b1, b2]) rfl ⟨_, rfl, ?_⟩
          rw [HW.out]
          exact word_err k1 k35 rfl hpl HP5.out hI _ _ _
        · have HW : Hid _ := hw
          have hl1' : (s.extract i I).size = 1 := by have := HSZ.out; omega
          have hq : ((I - i : Nat) : Int) = 1 := by omega
          have hx := HB0.out he (by omega)
          have hgt : (((s.extract i I)[0]'(by omega)).toNat : Int) ≤ 104 := by rw [hx]; omega
          have hxi : (((s.extract i I)[0]'(by omega)).toNat : Int) = (byteN s i : Int) := by rw [hx]
          have hwr : wrap64 ((byteN s i : Int) - 97) = (byteN s i : Int) - 97 := by unfold wrap64; omega
          have hle : (byteN s i : Int) ≤ 104 := by omega
          clear hw he hx h104
          go_wp2
          refine bodyPost_ret (v := .agg #[.int .i64 2, .int .i64 ((byteN s i : Int) - 97), .slice none 0 0]) (by simp [results, Tryd.results138, go_sem, b0, b1, b2]) rfl ⟨_, rfl, ?_⟩
          rw [HW.out]
          exact word_post k1 k3 rfl hpl HP2.out _ _ _
end Go.Proofs.YtdbpdanocpfboaaDoor
