import Derived.Test.YtdbpdanocpfboaaDoorZBun04
import Derived.Test.YtdbpdanocpfboaaDoorZBun06
/- The program's reader: what is small. -/
namespace Go.Proofs.YtdbpdanocpfboaaDoor
open Go.RowKit

/-- the program's reader of a text in memory -/
structure Rst (W : World) (p : Nat) (s : ByteArray) (I D : Nat) : Prop where
  c0 : W.cell? ⟨p, 0, none⟩ = some (.string s)
  c1 : W.cell? ⟨p, 1, none⟩ = some (.int .i64 (I : Int))
  c2 : W.cell? ⟨p, 2, none⟩ = some (.int .i64 (D : Int))
  f1 : W.frozen? ⟨p, 1, none⟩ = false
  f2 : W.frozen? ⟨p, 2, none⟩ = false
theorem Rst.lt {W : World} {p : Nat} {s : ByteArray} {I D : Nat} (h : Rst W p s I D) : p < W.heap.size := lt_of_cell h.c0
theorem Rst.keptS {W W' : World} {p : Nat} {s : ByteArray} {I D : Nat} {S : Nat → Prop} (h : Rst W p s I D) (hk : Kept S W W') (hp : ¬ S p) : Rst W' p s I D := by
  have hl := h.lt
  exact ⟨(hk.cell (p := ⟨p, 0, none⟩) hl hp).trans h.c0, (hk.cell (p := ⟨p, 1, none⟩) hl hp).trans h.c1, (hk.cell (p := ⟨p, 2, none⟩) hl hp).trans h.c2, (hk.frozen (p := ⟨p, 1, none⟩) hl hp).trans h.f1, (hk.frozen (p := ⟨p, 2, none⟩) hl hp).trans h.f2⟩
theorem Rst.kept {W W' : World} {p : Nat} {s : ByteArray} {I D : Nat} (h : Rst W p s I D) (hk : Kept (fun _ => False) W W') : Rst W' p s I D := h.keptS hk (fun f => f)
theorem Rst.setI {W : World} {p : Nat} {s : ByteArray} {I D : Nat} (h : Rst W p s I D) (J : Nat) : Rst (W.setCell ⟨p, 1, none⟩ (.int .i64 (J : Int))) p s J D := by
  obtain ⟨c0, c1, c2, f1, f2⟩ := h
  refine ⟨?_, ?_, ?_, ?_, ?_⟩ <;> simp [go_sem, c0, c1, c2, f1, f2]
theorem Rst.setD {W : World} {p : Nat} {s : ByteArray} {I D : Nat} (h : Rst W p s I D) (J : Nat) : Rst (W.setCell ⟨p, 2, none⟩ (.int .i64 (J : Int))) p s I J := by
  obtain ⟨c0, c1, c2, f1, f2⟩ := h
  refine ⟨?_, ?_, ?_, ?_, ?_⟩ <;> simp [go_sem, c0, c1, c2, f1, f2]

/-- what a reader stops with -/
def faultE (e : Int) (a : Nat) : Ending := .panicked [{ v := .iface 112 (.agg #[.int .i64 e, .int .i64 (a : Int)]), recovered := false }]

set_option maxHeartbeats 1000000 in
theorem fail119 (w : World) (p : Nat) (s : ByteArray) (i D : Nat) (x : Int) (h : Rst w p s i D) :
    Calls Tryd.prog 119 #[.pointer (some ⟨p, 0, none⟩), .int .i64 x] w fun e w' => e = faultE x i ∧ w' = w := by
  obtain ⟨c0, c1, c2, f1, f2⟩ := h
  go_enter Tryd.func119, Tryd.ntmps119
  go_wp2
  exact ⟨rfl, rfl, rfl⟩

set_option maxRecDepth 100000 in
set_option maxHeartbeats 2000000 in
theorem peek115 (w : World) (p : Nat) (s : ByteArray) (i D : Nat) (h : Rst w p s i D) (hi : i ≤ s.size) (hs : s.size ≤ 200) :
    Calls Tryd.prog 115 #[.pointer (some ⟨p, 0, none⟩)] w fun e w' => e = .returned (.int .u8 (byteN s (skipB s i) : Int)) ∧ Rst w' p s (skipB s i) D ∧ Kept (fun k => k = p) w w' := by
  have H : Hid (Rst w p s i D) := h
  clear h
  go_enter Tryd.func115, Tryd.ntmps115
  go_wp2_with fail
  go_loopg [] (s.size - i) (fun k wr => ∃ I, Rst wr p s I D ∧ I ≤ s.size ∧ skipB s I = skipB s i ∧ s.size - I = k ∧ Kept (fun k => k = p) w wr)
  case atStart => exact ⟨i, H.out, hi, rfl, rfl, Kept.refl _ _⟩
  case round =>
    obtain ⟨I, hp, hI, hsk, hk, hkw⟩ := hrel
    have HP : Hid (Rst wr p s I D) := hp
    obtain ⟨c0, c1, c2, f1, f2⟩ := hp
    by_cases hlt : I < s.size
    · have hlti : (I : Int) < (s.size : Int) := by omega
      have hlte : ((I : Int) == (s.size : Int)) = false := by simp; omega
      by_cases hb : byteN s I = 32
      · as_aux_lemma =>
          have hb' : (((s[I]).toNat : Int) == 32) = true := by rw [show (32 : Int) = ((32 : Nat) : Int) from rfl, byteN_eq hlt]; simp [hb]
          have HN : Hid (skipB s (I + 1) = skipB s i) := by rw [Hid, ← hsk, skipB_next hlt hb]
          have HK : Hid (s.size - I = gk) := hk
          clear hb hsk hk hlte
          go_upto_region 1 with fail
          go_quiet (fail)
          have HP1 : Hid (Rst (wr.drewN nq) p s I D) := HP.out.kept ((Kept.refl _ _).drewN _)
          have k1 : Kept (fun k => k = p) w (wr.drewN nq) := hkw.drewN _
          have HP2 : Hid (Rst ((wr.drewN nq).setCell ⟨p, 1, none⟩ (.int .i64 ((I + 1 : Nat) : Int))) p s (I + 1) D) := HP1.out.setI (I + 1)
          have k2 : Kept (fun k => k = p) w ((wr.drewN nq).setCell ⟨p, 1, none⟩ (.int .i64 ((I + 1 : Nat) : Int))) := k1.setCell (p := ⟨p, 1, none⟩) (fun _ => rfl) _
          obtain ⟨d0, d1, d2, g1, g2⟩ := HP1.out
          clear c0 c1 c2 f1 f2 hkw k1
          generalize wr.drewN nq = W1 at *
          have hin : wrap64 ((I : Int) + 1) = ((I + 1 : Nat) : Int) := by unfold wrap64; omega
          go_wp2
          go_roundg (s.size - (I + 1))
          case measure => have := HK.out; omega
          case rel => exact ⟨I + 1, by simpa using HP2.out, by omega, HN.out, rfl, by simpa using k2⟩
      · as_aux_lemma =>
          have hb' : (((s[I]).toNat : Int) == 32) = false := by rw [show (32 : Int) = ((32 : Nat) : Int) from rfl, byteN_eq hlt]; simp [hb]
          have HN : Hid (skipB s i = I) := by rw [Hid, ← hsk, skipB_stay (fun h => hb h.2)]
          have HB : Hid (((s[I]).toNat : Int) = (byteN s I : Int)) := by rw [Hid, byteN_get hlt]
          clear hb hsk hk
          go_upto_region 1 with fail
          go_quiet (fail)
          have HP1 : Hid (Rst (wr.drewN nq) p s I D) := HP.out.kept ((Kept.refl _ _).drewN _)
          have k1 : Kept (fun k => k = p) w (wr.drewN nq) := hkw.drewN _
          obtain ⟨d0, d1, d2, g1, g2⟩ := HP1.out
          clear c0 c1 c2 f1 f2 hkw
          generalize wr.drewN nq = W1 at *
          go_upto_region 3 with fail
          go_quiet (fail)
          have HP2 : Hid (Rst (W1.drewN nq) p s I D) := HP1.out.kept ((Kept.refl _ _).drewN _)
          have k2 : Kept (fun k => k = p) w (W1.drewN nq) := k1.drewN _
          clear d0 d1 d2 g1 g2 k1
          generalize W1.drewN nq = W2 at *
          obtain ⟨d0, d1, d2, g1, g2⟩ := HP2.out
          go_upto_region 5 with fail
          go_quiet (fail)
          have HP3 : Hid (Rst (W2.drewN nq) p s I D) := HP2.out.kept ((Kept.refl _ _).drewN _)
          have k3 : Kept (fun k => k = p) w (W2.drewN nq) := k2.drewN _
          go_wp2
          go_ret
          rw [HN.out, HB.out]
          exact ⟨rfl, HP3.out, k3⟩
    · as_aux_lemma =>
        have hlti : ¬ (I : Int) < (s.size : Int) := by omega
        have hlte : ((I : Int) == (s.size : Int)) = true := by simp; omega
        have HN : Hid (skipB s i = I) := by rw [Hid, ← hsk, skipB_stay (fun h => hlt h.1)]
        have HB : Hid (byteN s I = 0) := byteN_end (by omega)
        clear hsk hk
        go_upto_region 1 with fail
        go_quiet (fail)
        have HP1 : Hid (Rst (wr.drewN nq) p s I D) := HP.out.kept ((Kept.refl _ _).drewN _)
        have k1 : Kept (fun k => k = p) w (wr.drewN nq) := hkw.drewN _
        obtain ⟨d0, d1, d2, g1, g2⟩ := HP1.out
        clear c0 c1 c2 f1 f2 hkw
        generalize wr.drewN nq = W1 at *
        go_upto_region 3 with fail
        go_quiet (fail)
        have HP2 : Hid (Rst (W1.drewN nq) p s I D) := HP1.out.kept ((Kept.refl _ _).drewN _)
        have k2 : Kept (fun k => k = p) w (W1.drewN nq) := k1.drewN _
        go_wp2
        go_ret
        rw [HN.out, HB.out]
        exact ⟨rfl, HP2.out, k2⟩

set_option maxRecDepth 100000 in
set_option maxHeartbeats 2000000 in
theorem exact113_nil (w : World) (p : Nat) (s : ByteArray) (i D : Nat) (h : Rst w p s i D) :
    Calls Tryd.prog 113 #[.pointer (some ⟨p, 0, none⟩), .string ⟨#[]⟩] w fun e w' => e = .returned (.tuple #[]) ∧ Rst w' p s i D ∧ Kept (fun k => k = p) w w' := by
  have H : Hid (Rst w p s i D) := h
  clear h
  go_enter Tryd.func113, Tryd.ntmps113
  go_wp2_with fail
  go_loopg [4, 7] 0 (fun k _ x wr => wr = w ∧ k = 0 ∧ x = .int .i64 0)
  case atStart => exact ⟨rfl, rfl, rfl⟩
  case round =>
    obtain ⟨rfl, _, rfl⟩ := hrel
    go_wp2
    go_end0
    exact ⟨rfl, H.out, Kept.refl _ _⟩

set_option maxRecDepth 100000 in
set_option maxHeartbeats 2000000 in
theorem exact113_yes (w : World) (p : Nat) (s : ByteArray) (i D : Nat) (c : UInt8) (h : Rst w p s i D) (hs : s.size ≤ 200) (hlt : i < s.size) (hc : byteN s i = c.toNat) :
    Calls Tryd.prog 113 #[.pointer (some ⟨p, 0, none⟩), .string ⟨#[c]⟩] w fun e w' => e = .returned (.tuple #[]) ∧ Rst w' p s (i + 1) D ∧ Kept (fun k => k = p) w w' := by
  have H : Hid (Rst w p s i D) := h
  have hlti : (i : Int) < (s.size : Int) := by omega
  have hlte : ((i : Int) == (s.size : Int)) = false := by simp; omega
  have hb : ((s[i]).toNat : Int) = (c.toNat : Int) := by rw [← hc, byteN_get hlt]
  have hz : (⟨#[c]⟩ : ByteArray).size = 1 := rfl
  have hg : (⟨#[c]⟩ : ByteArray)[0] = c := rfl
  clear h hc
  go_enter Tryd.func113, Tryd.ntmps113
  go_wp2_with fail
  go_loopg [4, 7] 2 (fun k _ x wr => (k = 2 ∧ x = .int .i64 0 ∧ wr = w) ∨ (k = 1 ∧ x = .int .i64 1 ∧ Rst wr p s (i + 1) D ∧ Kept (fun k => k = p) w wr))
  case atStart => exact .inl ⟨rfl, rfl, rfl⟩
  case round =>
    rcases hrel with ⟨rfl, rfl, rfl⟩ | ⟨rfl, rfl, hp, hk⟩
    · as_aux_lemma =>
        obtain ⟨c0, c1, c2, f1, f2⟩ := id H.out
        go_upto_region 3 with fail
        go_quiet (fail)
        have HP1 : Hid (Rst (wr.drewN nq) p s i D) := H.out.kept ((Kept.refl _ _).drewN _)
        have k1 : Kept (fun k => k = p) wr (wr.drewN nq) := (Kept.refl _ _).drewN _
        have HP2 : Hid (Rst ((wr.drewN nq).setCell ⟨p, 1, none⟩ (.int .i64 ((i + 1 : Nat) : Int))) p s (i + 1) D) := HP1.out.setI (i + 1)
        have k2 : Kept (fun k => k = p) wr ((wr.drewN nq).setCell ⟨p, 1, none⟩ (.int .i64 ((i + 1 : Nat) : Int))) := k1.setCell (p := ⟨p, 1, none⟩) (fun _ => rfl) _
        obtain ⟨d0, d1, d2, g1, g2⟩ := HP1.out
        clear c0 c1 c2 f1 f2 k1
        have HK2 : Hid (Kept (fun k => k = p) wr ((wr.drewN nq).setCell ⟨p, 1, none⟩ (.int .i64 ((i + 1 : Nat) : Int)))) := k2
        clear k2
        generalize wr.drewN nq = W1 at *
        have hin : wrap64 ((i : Int) + 1) = ((i + 1 : Nat) : Int) := by unfold wrap64; omega
        go_wp2
        go_roundg 1
        case measure => omega
        case rel => exact .inr ⟨rfl, rfl, by simpa using HP2.out, by simpa using HK2.out⟩
    · as_aux_lemma =>
        go_wp2
        go_end0
        exact ⟨rfl, hp, hk⟩

set_option maxRecDepth 100000 in
set_option maxHeartbeats 2000000 in
theorem exact113_not (w : World) (p : Nat) (s : ByteArray) (i D : Nat) (c : UInt8) (h : Rst w p s i D) (hi : i ≤ s.size) (hc : byteN s i ≠ c.toNat) :
    Calls Tryd.prog 113 #[.pointer (some ⟨p, 0, none⟩), .string ⟨#[c]⟩] w fun e w' => e = faultE 2 i ∧ Kept (fun k => k = p) w w' := by
  have H : Hid (Rst w p s i D) := h
  have hcase : ((i : Int) == (s.size : Int)) = true ∨ ∃ h : i < s.size, (i : Int) < (s.size : Int) ∧ ((i : Int) == (s.size : Int)) = false ∧ (((s[i]'h).toNat : Int) != (c.toNat : Int)) = true := by
    by_cases h1 : i < s.size
    · refine .inr ⟨h1, by omega, by simp; omega, ?_⟩
      rw [bne, byteN_eq h1]
      simp [hc]
    · exact .inl (by simp; omega)
  have hz : (⟨#[c]⟩ : ByteArray).size = 1 := rfl
  have hg : (⟨#[c]⟩ : ByteArray)[0] = c := rfl
  clear h hc
  go_enter Tryd.func113, Tryd.ntmps113
  go_wp2_with fail
  go_loopg [4, 7] 2 (fun k _ x wr => (k = 2 ∧ x = .int .i64 0 ∧ wr = w))
  case atStart => exact ⟨rfl, rfl, rfl⟩
  case round =>
    obtain ⟨rfl, rfl, rfl⟩ := hrel
    obtain ⟨c0, c1, c2, f1, f2⟩ := id H.out
    rcases hcase with hl | ⟨hl0, hl1, hl2, hl3⟩
    all_goals as_aux_lemma =>
      go_upto_region 3 with fail
      go_quiet (fail)
      have HP1 : Hid (Rst (wr.drewN nq) p s i D) := H.out.kept ((Kept.refl _ _).drewN _)
      have k1 : Kept (fun k => k = p) wr (wr.drewN nq) := (Kept.refl _ _).drewN _
      clear c0 c1 c2 f1 f2
      go_wp2_with (go_at_call 119; refine (fail119 _ p s i D 2 HP1.out).mono ?_; rintro e w2 ⟨he, rfl⟩; rw [faultE] at he; subst he)
      exact ⟨rfl, rfl, k1⟩

/-- how an Op is written -/
def kindS (j : Nat) : ByteArray := ([⟨#[116, 114, 117, 101]⟩, ⟨#[102, 97, 108, 115, 101]⟩, ⟨#[]⟩, ⟨#[33]⟩, ⟨#[38]⟩, ⟨#[124]⟩, ⟨#[45, 62]⟩, ⟨#[88]⟩, ⟨#[85]⟩, ⟨#[82]⟩, ⟨#[70]⟩, ⟨#[71]⟩] : List ByteArray).getD j ⟨#[]⟩
/-- the table of kinds in memory -/
def TabS (w : World) : Prop := ∀ j, j < 12 → w.cell? ⟨0, 2 * j, none⟩ = some (.string (kindS j)) ∧ w.cell? ⟨0, 2 * j + 1, none⟩ = some (.int .i64 (kidC j))
theorem TabS.keptS {w w' : World} (h : TabS w) {S : Nat → Prop} (hk : Kept S w w') (hs : ¬ S 0) : TabS w' := fun j hj => ⟨(hk.cell (p := ⟨0, 2 * j, none⟩) (lt_of_cell (h j hj).1) hs).trans (h j hj).1, (hk.cell (p := ⟨0, 2 * j + 1, none⟩) (lt_of_cell (h j hj).2) hs).trans (h j hj).2⟩
/-- what a program's reader's call says of an answer -/
def PostQ (w : World) (p : Nat) (s : ByteArray) (D : Nat) (r : PRes) (e : Ending) (w' : World) : Prop := Kept (fun k => k = p) w w' ∧ match r with
  | .ok t j => ∃ v, e = .returned v ∧ Rst w' p s j D ∧ FVS (fun b => w.heap.size ≤ b ∧ b < w'.heap.size) w' v t
  | .err x a => e = faultE x a

end Go.Proofs.YtdbpdanocpfboaaDoor
