import Derived.Test.YtdbpdanocpfboaaDoorZBun12
import Derived.Defers
import Derived.Recover
import Derived.Test.YtdbpdanocpfboaaDoorZPq7
/- The program's reader: what stops it is caught. -/
namespace Go.Proofs.YtdbpdanocpfboaaDoor
open Go.RowKit

theorem run_ta (v : Value) (w : World) : (Instr.typeAssert (.iface 112 v) 20 112 true).run Tryd.prog w = .ok (.tuple #[v, .bool true]) w := by kernel_rfl
theorem run_ta_nil (w : World) : (Instr.typeAssert .nilIface 20 112 true).run Tryd.prog w = .ok (.tuple #[.agg #[.int .i64 0, .int .i64 0], .bool false]) w := by kernel_rfl
set_option maxRecDepth 100000 in
set_option maxHeartbeats 2000000 in
theorem catch74_stop (w : World) (b1 b2 b3 : Nat) (x : Int) (a : Nat) (h1 : Wb3 w b1 (.int .i64 0) (.int .i64 0) (.slice none 0 0)) (c2 : w.cell? ⟨b2, 0, none⟩ = some (.int .i64 0)) (f2 : w.frozen? ⟨b2, 0, none⟩ = false) (c3 : w.cell? ⟨b3, 0, none⟩ = some (.int .i64 0)) (f3 : w.frozen? ⟨b3, 0, none⟩ = false) (n1 : b1 ≠ b2) (n2 : b1 ≠ b3) (n3 : b2 ≠ b3) :
    CallsD Tryd.prog 74 #[.pointer (some ⟨b1, 0, none⟩), .pointer (some ⟨b2, 0, none⟩), .pointer (some ⟨b3, 0, none⟩)] (.panicking [{ v := .iface 112 (.agg #[.int .i64 x, .int .i64 (a : Int)]), recovered := false }]) w fun e u' w' =>
      e = .returned (.tuple #[]) ∧ u' = .panicking [{ v := .iface 112 (.agg #[.int .i64 x, .int .i64 (a : Int)]), recovered := true }] ∧ Kept (fun k => k = b1 ∨ k = b2 ∨ k = b3) w w' ∧ Wb3 w' b1 (.int .i64 0) (.int .i64 0) (.slice none 0 0) ∧ w'.cell? ⟨b2, 0, none⟩ = some (.int .i64 x) ∧ w'.cell? ⟨b3, 0, none⟩ = some (.int .i64 (a : Int)) := by
  refine callsD_of_wpS Tryd.func74 rfl fun c₀ cs hu => ?_
  have hta := run_ta
  apply wpS_seq
  apply wpS_region
  simp [wpOpsS, go_sem, recoverD, hu, hta, Tryd.ntmps74, Exit.thenS]
  obtain ⟨w1, hw1⟩ : ∃ w1, w1 = w.alloc (.cells #[.int .i64 x, .int .i64 (a : Int)] 112) := ⟨_, rfl⟩
  have k1 : Kept (fun _ => False) w w1 := by rw [hw1]; exact (Kept.refl _ _).alloc _
  have e0 : w1.cell? ⟨w.heap.size, 0, none⟩ = some (.int .i64 x) := by rw [hw1]; simp [go_sem]
  have e1 : w1.cell? ⟨w.heap.size, 1, none⟩ = some (.int .i64 (a : Int)) := by rw [hw1]; simp [go_sem]
  rw [← hw1]
  clear hw1
  have g1 := h1.kept k1
  have g2 : w1.cell? ⟨b2, 0, none⟩ = some (.int .i64 0) := (k1.cell (p := ⟨b2, 0, none⟩) (lt_of_cell c2) (fun f => f)).trans c2
  have g3 : w1.frozen? ⟨b2, 0, none⟩ = false := (k1.frozen (p := ⟨b2, 0, none⟩) (lt_of_cell c2) (fun f => f)).trans f2
  have g4 : w1.cell? ⟨b3, 0, none⟩ = some (.int .i64 0) := (k1.cell (p := ⟨b3, 0, none⟩) (lt_of_cell c3) (fun f => f)).trans c3
  have g5 : w1.frozen? ⟨b3, 0, none⟩ = false := (k1.frozen (p := ⟨b3, 0, none⟩) (lt_of_cell c3) (fun f => f)).trans f3
  have l1 := h1.1
  have l2 : b2 < w.heap.size := lt_of_cell c2
  have l3 : b3 < w.heap.size := lt_of_cell c3
  have m1 : ¬ w.heap.size = b1 := by omega
  have m2 : ¬ w.heap.size = b2 := by omega
  have m3 : ¬ w.heap.size = b3 := by omega
  have K1 : Hid (Kept (fun k => k = b1 ∨ k = b2 ∨ k = b3) w w1) := k1.mono (fun _ _ f => f.elim)
  have HU : Hid (c₀.mode = FrameMode.panicking [{ v := .iface 112 (.agg #[.int .i64 x, .int .i64 (a : Int)]), recovered := false }]) := hu
  obtain ⟨y9, ⟨y0, y1, y2⟩, y3, y4, y5⟩ := id g1
  have G1 : Hid (Wb3 w1 b1 (.int .i64 0) (.int .i64 0) (.slice none 0 0)) := g1
  clear h1 c2 f2 c3 f3 hta hu g1
  generalize w.heap.size = bs at *
  refine wpS_of_wp ?_
  simp only [Array.replicate, List.replicate, List.setIfInBounds_toArray, List.set_cons_succ, List.set_cons_zero, List.append_toArray, List.cons_append, List.nil_append]
  go_upto_region 2 with fail
  go_region
  refine ⟨rfl, _, rfl, .tuple #[], by simp [results, Tryd.results74, go_sem], rfl, rfl, ?_, ?_, ?_, ?_⟩
  · exact (((((K1.out.setCell (p := ⟨b1, 0, none⟩) (fun _ => .inl rfl) _).setCell (p := ⟨b1, 1, none⟩) (fun _ => .inl rfl) _).setCell (p := ⟨b1, 2, none⟩) (fun _ => .inl rfl) _).setCell (p := ⟨b2, 0, none⟩) (fun _ => .inr (.inl rfl)) _).setCell (p := ⟨b3, 0, none⟩) (fun _ => .inr (.inr rfl)) _).drew
  · exact (((G1.out.store _ _ _).other (p := ⟨b2, 0, none⟩) (Ne.symm n1) _).other (p := ⟨b3, 0, none⟩) (Ne.symm n2) _).kept ((Kept.refl _ _).drew)
  · simp [go_sem, g2]
  · simp [go_sem, g4]

set_option maxRecDepth 100000 in
set_option maxHeartbeats 2000000 in
theorem catch74_idle (w : World) (b1 b2 b3 : Nat) :
    CallsD Tryd.prog 74 #[.pointer (some ⟨b1, 0, none⟩), .pointer (some ⟨b2, 0, none⟩), .pointer (some ⟨b3, 0, none⟩)] .returning w fun e u' w' =>
      e = .returned (.tuple #[]) ∧ u' = .returning ∧ Kept (fun _ => False) w w' := by
  refine callsD_of_wpS Tryd.func74 rfl fun c₀ cs hu => ?_
  have hta := run_ta_nil
  apply wpS_seq
  apply wpS_region
  simp [wpOpsS, go_sem, recoverD, hu, hta, Tryd.ntmps74, Exit.thenS]
  refine wpS_of_wp ?_
  simp only [Array.replicate, List.replicate, List.setIfInBounds_toArray, List.set_cons_succ, List.set_cons_zero, List.append_toArray, List.cons_append, List.nil_append]
  have HU : Hid (c₀.mode = FrameMode.returning) := hu
  clear hu
  go_wp2
  refine ⟨rfl, .returning, ?_, .tuple #[], by simp [results, Tryd.results74, go_sem], rfl, rfl, (Kept.refl _ _).alloc _⟩
  have := HU.out
  cases c₀
  simp_all
end Go.Proofs.YtdbpdanocpfboaaDoor

/- The program's Parse. -/
namespace Go.Proofs.YtdbpdanocpfboaaDoor
open Go.RowKit

/-- what the program answers to a text -/
def PostU (w : World) (S : Nat → Prop) (r : PRes) (e : Ending) (w' : World) : Prop := Kept S w w' ∧ match r with
  | .ok t _ => ∃ v, e = .returned (.tuple #[v, .int .i64 0, .int .i64 0]) ∧ FVS (fun b => w.heap.size ≤ b ∧ b < w'.heap.size) w' v t
  | .err x a => e = .returned (.tuple #[.agg #[.int .i64 0, .int .i64 0, .slice none 0 0], .int .i64 x, .int .i64 (a : Int)])

set_option maxRecDepth 100000 in
set_option maxHeartbeats 4000000 in
theorem formula45 (w : World) (p : Nat) (s : ByteArray) (hs : s.size ≤ 200) (h : Rst w p s 0 0) (hT : TabS w) (h0 : p ≠ 0) :
    Calls Tryd.prog 45 #[.pointer (some ⟨p, 0, none⟩)] w fun e w' => ∃ r, PW s r ∧ PostU w (fun k => k = p) r e w' := by
  have hmf : ∀ (fn : Fn) (first cap : Array Value) (w : World), (Instr.makeFunc fn first cap).run Tryd.prog w = .ok (.func fn first cap) w := fun _ _ _ _ => rfl
  obtain ⟨w1, hw1⟩ : ∃ w1, w1 = ((w.alloc (.cells #[.int .i64 0, .int .i64 0, .slice none 0 0] 24)).alloc (.cells #[.int .i64 0] 25)).alloc (.cells #[.int .i64 0] 3) := ⟨_, rfl⟩
  have k1 : Kept (fun _ => False) w w1 := by rw [hw1]; exact (((Kept.refl _ _).alloc _).alloc _).alloc _
  have hr : Wb3 w1 w.heap.size (.int .i64 0) (.int .i64 0) (.slice none 0 0) := by rw [hw1]; exact (Wb3.new _ _ _ _ _).kept (((Kept.refl _ _).alloc _).alloc _)
  have c2 : w1.cell? ⟨w.heap.size + 1, 0, none⟩ = some (.int .i64 0) := by rw [hw1]; simp [go_sem]
  have f2 : w1.frozen? ⟨w.heap.size + 1, 0, none⟩ = false := by rw [hw1]; simp [go_sem]
  have c3 : w1.cell? ⟨w.heap.size + 1 + 1, 0, none⟩ = some (.int .i64 0) := by rw [hw1]; simp [go_sem]
  have f3 : w1.frozen? ⟨w.heap.size + 1 + 1, 0, none⟩ = false := by rw [hw1]; simp [go_sem]
  have hpl := h.lt
  have H : Hid (Rst w1 p s 0 0 ∧ TabS w1) := ⟨h.kept k1, hT.keptS k1 (fun f => f)⟩
  have hz : w1.heap.size = w.heap.size + 1 + 1 + 1 := by rw [hw1]; simp
  have HX : Hid (Wb3 w1 w.heap.size (.int .i64 0) (.int .i64 0) (.slice none 0 0) ∧ (w1.cell? ⟨w.heap.size + 1, 0, none⟩ = some (.int .i64 0) ∧ w1.frozen? ⟨w.heap.size + 1, 0, none⟩ = false) ∧ (w1.cell? ⟨w.heap.size + 1 + 1, 0, none⟩ = some (.int .i64 0) ∧ w1.frozen? ⟨w.heap.size + 1 + 1, 0, none⟩ = false) ∧ w1.heap.size = w.heap.size + 1 + 1 + 1) := ⟨hr, ⟨c2, f2⟩, ⟨c3, f3⟩, hz⟩
  clear hr c2 f2 c3 f3 hz
  go_enter_defers Tryd.func45, Tryd.ntmps45
  go_upto_region 2 with fail
  rw [← hw1]
  clear hw1 h hT
  obtain ⟨b1, hb1⟩ : ∃ b, w.heap.size = b := ⟨_, rfl⟩
  obtain ⟨b2, hb2⟩ : ∃ b, b1 + 1 = b := ⟨_, rfl⟩
  obtain ⟨b3, hb3⟩ : ∃ b, b2 + 1 = b := ⟨_, rfl⟩
  rw [hb1, hb2, hb3] at HX
  rw [hb1, hb2, hb3]
  have n1 : b1 ≠ b2 := by omega
  have n2 : b1 ≠ b3 := by omega
  have n3 : b2 ≠ b3 := by omega
  have n4 : b1 ≠ p := by omega
  have n5 : b2 ≠ p := by omega
  have n6 : b3 ≠ p := by omega
  have HB : Hid (w.heap.size = b1 ∧ b1 + 1 = b2 ∧ b2 + 1 = b3) := ⟨hb1, hb2, hb3⟩
  clear hb1 hb2 hb3
  obtain ⟨hr, ⟨c2, f2⟩, ⟨c3, f3⟩, hz⟩ := HX.out
  have HZ : Hid (w1.heap.size = b3 + 1) := hz
  clear HX hz
  have n7 : ¬ b2 = b1 := Ne.symm n1
  have n8 : ¬ b3 = b1 := Ne.symm n2
  have n9 : ¬ b3 = b2 := Ne.symm n3
  have HQR : Hid (∀ w2, Kept (fun k => k = p) w1 w2 → Wb3 w2 b1 (.int .i64 0) (.int .i64 0) (.slice none 0 0) ∧ (w2.cell? ⟨b2, 0, none⟩ = some (.int .i64 0) ∧ w2.frozen? ⟨b2, 0, none⟩ = false) ∧ (w2.cell? ⟨b3, 0, none⟩ = some (.int .i64 0) ∧ w2.frozen? ⟨b3, 0, none⟩ = false) ∧ Kept (fun k => k = p) w w2) := fun w2 k2 =>
    ⟨hr.keptS k2 n4, ⟨(k2.cell (p := ⟨b2, 0, none⟩) (lt_of_cell c2) n5).trans c2, (k2.frozen (p := ⟨b2, 0, none⟩) (lt_of_cell c2) n5).trans f2⟩, ⟨(k2.cell (p := ⟨b3, 0, none⟩) (lt_of_cell c3) n6).trans c3, (k2.frozen (p := ⟨b3, 0, none⟩) (lt_of_cell c3) n6).trans f3⟩, (k1.mono (T := fun k => k = p) (fun _ _ f => f.elim)).trans k2 (fun _ _ e => e)⟩
  clear c2 f2 c3 f3 hr
  go_wp2_with (go_at_call 75; refine (whole75 w1 p s hs H.out.1 H.out.2 h0).mono ?_; rintro e w2 ⟨r, hpw, hpost⟩; obtain ⟨hr2, ⟨d2, g2⟩, ⟨d3, g3⟩, k2⟩ := HQR.out w2 hpost.1; rcases r with ⟨t, j⟩ | ⟨x, a⟩; rotate_left; (have he : e = faultE x a := hpost.2; rw [faultE] at he; subst he; refine leaves_cons (f := 74) (args := #[.pointer (some ⟨b1, 0, none⟩), .pointer (some ⟨b2, 0, none⟩), .pointer (some ⟨b3, 0, none⟩)]) (by simp) (by simp [go_sem]) ?_; refine (catch74_stop w2 b1 b2 b3 x a hr2 d2 g2 d3 g3 n1 n2 n3).mono ?_; rintro e u' w3 ⟨rfl, rfl, k3, ⟨_, ⟨y0, y1, y2⟩, _⟩, e2, e3⟩; refine ⟨.tuple #[.agg #[.int .i64 0, .int .i64 0, .slice none 0 0], .int .i64 x, .int .i64 (a : Int)], by simp [results, Tryd.results45, go_sem, y0, y1, y2, e2, e3], _, hpw, ?_, rfl⟩; obtain ⟨q1, q2, q3⟩ := HB.out; exact k2.trans k3 (fun k hk e => by omega)); (obtain ⟨v, he, hf⟩ := hpost.2; obtain ⟨o1, n1', a1, l1, e1, rfl⟩ := FVS.agg hf; subst he; have HW : Hid (PW s (.ok t j)) := hpw; have HF : Hid (FVS (fun b => w1.heap.size ≤ b ∧ b < w2.heap.size) w2 (.agg #[.int .i64 o1, .int .i64 n1', .slice a1 l1 e1]) t) := hf; have K2 : Hid (Kept (fun k => k = p) w w2) := k2; have HR2 : Hid (Wb3 w2 b1 (.int .i64 0) (.int .i64 0) (.slice none 0 0)) := hr2; obtain ⟨y9, ⟨y0, y1, y2⟩, y3, y4, y5⟩ := hr2; clear hpw hpost hf k2))
  refine leaves_cons (f := 74) (args := #[.pointer (some ⟨b1, 0, none⟩), .pointer (some ⟨b2, 0, none⟩), .pointer (some ⟨b3, 0, none⟩)]) (by simp) (by simp [go_sem]) ?_
  refine (catch74_idle _ b1 b2 b3).mono ?_
  rintro e u' w3 ⟨rfl, rfl, k3⟩
  have kW : Kept (fun k => k = b1 ∨ k = b2 ∨ k = b3) w2 (((((w2.setCell ⟨b1, 0, none⟩ (.int .i64 o1)).setCell ⟨b1, 1, none⟩ (.int .i64 n1')).setCell ⟨b1, 2, none⟩ (.slice a1 l1 e1)).setCell ⟨b2, 0, none⟩ (.int .i64 0)).setCell ⟨b3, 0, none⟩ (.int .i64 0)) := (((((Kept.refl _ _).setCell (p := ⟨b1, 0, none⟩) (fun _ => .inl rfl) _).setCell (p := ⟨b1, 1, none⟩) (fun _ => .inl rfl) _).setCell (p := ⟨b1, 2, none⟩) (fun _ => .inl rfl) _).setCell (p := ⟨b2, 0, none⟩) (fun _ => .inr (.inl rfl)) _).setCell (p := ⟨b3, 0, none⟩) (fun _ => .inr (.inr rfl)) _
  have k4 : Kept (fun k => k = b1 ∨ k = b2 ∨ k = b3) w2 w3 := kW.trans k3 (fun _ _ f => f.elim)
  have l2 : b2 < w2.heap.size := lt_of_cell d2
  have l3 : b3 < w2.heap.size := lt_of_cell d3
  have hwb : Wb3 (((((w2.setCell ⟨b1, 0, none⟩ (.int .i64 o1)).setCell ⟨b1, 1, none⟩ (.int .i64 n1')).setCell ⟨b1, 2, none⟩ (.slice a1 l1 e1)).setCell ⟨b2, 0, none⟩ (.int .i64 0)).setCell ⟨b3, 0, none⟩ (.int .i64 0)) b1 (.int .i64 o1) (.int .i64 n1') (.slice a1 l1 e1) := ((HR2.out.store _ _ _).other (p := ⟨b2, 0, none⟩) n7 _).other (p := ⟨b3, 0, none⟩) n8 _
  obtain ⟨_, ⟨t0, t1, t2⟩, _⟩ := hwb.kept k3
  have t3 : w3.cell? ⟨b2, 0, none⟩ = some (.int .i64 0) := (k3.cell (p := ⟨b2, 0, none⟩) (Nat.lt_of_lt_of_le l2 kW.size) (fun f => f)).trans (by simp [go_sem, d2])
  have t4 : w3.cell? ⟨b3, 0, none⟩ = some (.int .i64 0) := (k3.cell (p := ⟨b3, 0, none⟩) (Nat.lt_of_lt_of_le l3 kW.size) (fun f => f)).trans (by simp [go_sem, d3])
  obtain ⟨q1, q2, q3⟩ := HB.out
  refine ⟨.tuple #[.agg #[.int .i64 o1, .int .i64 n1', .slice a1 l1 e1], .int .i64 0, .int .i64 0], by simp [results, Tryd.results45, go_sem, t0, t1, t2, t3, t4], _, HW.out, K2.out.trans k4 (fun k hk e => by omega), _, rfl, ?_⟩
  have hz := HZ.out
  exact FVS.keep HF.out (fun b hb => ⟨by omega, Nat.lt_of_lt_of_le hb.2 k4.size⟩) (fun b hb => k4.block b hb.2 (fun e => by have := hb.1; omega))

theorem PostU.pre {w w1 w' : World} {p : Nat} {r : PRes} {e : Ending} (k : Kept (fun _ => False) w w1) (hp : w.heap.size ≤ p) (h : PostU w1 (fun k => k = p) r e w') : PostU w (fun _ => False) r e w' := by
  have hs := k.size
  refine ⟨k.trans h.1 (fun k hk e => by omega), ?_⟩
  cases r with
  | ok t j =>
    obtain ⟨v, he, hf⟩ := h.2
    exact ⟨v, he, FVS.keep hf (fun b hb => ⟨by omega, hb.2⟩) (fun _ _ => rfl)⟩
  | err x a => exact h.2

set_option maxHeartbeats 2000000 in
theorem parse11_long (w : World) (s : ByteArray) (hs : 200 < s.size) : Calls Tryd.prog 11 #[.string s] w fun e w' => PostU w (fun _ => False) (.err 1 0) e w' := by
  have hl2 : (200 : Int) < (s.size : Int) := by omega
  go_enter Tryd.func11, Tryd.ntmps11
  go_wp2
  refine bodyPost_ret (v := .tuple #[.agg #[.int .i64 0, .int .i64 0, .slice none 0 0], .int .i64 1, .int .i64 0]) (by simp [results, Tryd.results11, go_sem]) rfl ?_
  exact ⟨(Kept.refl _ _).alloc _, rfl⟩

set_option maxRecDepth 100000 in
set_option maxHeartbeats 4000000 in
theorem parse11 (w : World) (s : ByteArray) (hs : s.size ≤ 200) (hT : TabS w) : Calls Tryd.prog 11 #[.string s] w fun e w' => ∃ r, PW s r ∧ PostU w (fun _ => False) r e w' := by
  have hl2 : ¬ (200 : Int) < (s.size : Int) := by omega
  obtain ⟨w1, hw1⟩ : ∃ w1, w1 = (w.alloc (.cells #[.int .i64 0, .int .i64 0, .slice none 0 0] 24)).alloc (.cells #[.string s, .int .i64 0, .int .i64 0] 73) := ⟨_, rfl⟩
  have k1 : Kept (fun _ => False) w w1 := by rw [hw1]; exact ((Kept.refl _ _).alloc _).alloc _
  have hr : Wb3 w1 w.heap.size (.int .i64 0) (.int .i64 0) (.slice none 0 0) := by rw [hw1]; exact (Wb3.new _ _ _ _ _).kept ((Kept.refl _ _).alloc _)
  have hP : Rst w1 (w.heap.size + 1) s 0 0 := by
    rw [hw1]
    refine ⟨?_, ?_, ?_, ?_, ?_⟩ <;> simp [go_sem]
  have hT1 : TabS w1 := hT.keptS k1 (fun f => f)
  have HP : Hid (Rst w1 (w.heap.size + 1) s 0 0 ∧ TabS w1) := ⟨hP, hT1⟩
  have hlr := hr.1
  clear hP hT1 hT
  go_enter Tryd.func11, Tryd.ntmps11
  go_upto_region 4 with fail
  rw [← hw1]
  clear hw1
  obtain ⟨p, hp⟩ : ∃ p, w.heap.size + 1 = p := ⟨_, rfl⟩
  have HPE : Hid (w.heap.size + 1 = p) := hp
  rw [hp] at HP
  rw [hp]
  have hpr : ¬ w.heap.size = p := by omega
  have hp0 : p ≠ 0 := by omega
  clear hp
  go_wp2_with (go_at_call 45; refine (formula45 w1 p s hs HP.out.1 HP.out.2 hp0).mono ?_; rintro e w2 ⟨r, hpw, hpost⟩; have hr2 := hr.keptS hpost.1 hpr; have HR2 : Hid (Wb3 w2 w.heap.size (.int .i64 0) (.int .i64 0) (.slice none 0 0)) := hr2; have HPO : Hid (PW s r ∧ PostU w1 (fun k => k = p) r e w2) := ⟨hpw, hpost⟩; obtain ⟨o1, n1, a1, l1, e1, x, a, he⟩ : ∃ o1 n1 a1 l1 e1 x a, e = .returned (.tuple #[.agg #[.int .i64 o1, .int .i64 n1, .slice a1 l1 e1], .int .i64 x, .int .i64 a]) := (by rcases r with ⟨t, j⟩ | ⟨x, a⟩; (obtain ⟨v, he, hf⟩ := hpost.2; obtain ⟨o1, n1, a1, l1, e1, rfl⟩ := FVS.agg hf; exact ⟨_, _, _, _, _, _, _, he⟩); exact ⟨_, _, _, _, _, _, _, hpost.2⟩); subst he; obtain ⟨y9, ⟨y0, y1, y2⟩, y3, y4, y5⟩ := hr2; clear hpost hpw)
  refine bodyPost_ret (v := .tuple #[.agg #[.int .i64 o1, .int .i64 n1, .slice a1 l1 e1], .int .i64 x, .int .i64 a]) (by simp [results, Tryd.results11, go_sem, y0, y1, y2]) rfl ?_
  obtain ⟨hpw, hpost⟩ := HPO.out
  refine ⟨_, hpw, ?_⟩
  have hq := hpost.pre k1 (by have := HPE.out; omega)
  have hk : Kept (fun k => k = w.heap.size) w2 (((w2.setCell ⟨w.heap.size, 0, none⟩ (.int .i64 o1)).setCell ⟨w.heap.size, 1, none⟩ (.int .i64 n1)).setCell ⟨w.heap.size, 2, none⟩ (.slice a1 l1 e1)) := (((Kept.refl (fun k => k = w.heap.size) w2).setCell (p := ⟨w.heap.size, 0, none⟩) (fun _ => rfl) _).setCell (p := ⟨w.heap.size, 1, none⟩) (fun _ => rfl) _).setCell (p := ⟨w.heap.size, 2, none⟩) (fun _ => rfl) _
  refine ⟨hq.1.trans hk (fun k hk e => by omega), ?_⟩
  cases r with
  | ok t j =>
    obtain ⟨v, he, hf⟩ := hpost.2
    exact ⟨v, he, FVS.keep hf (fun b hb => ⟨by have := k1.size; omega, by simpa [World.setCell] using hb.2⟩) (fun b hb => hk.block b hb.2 (fun e => by have := hb.1; omega))⟩
  | err x a => exact hpost.2
end Go.Proofs.YtdbpdanocpfboaaDoor
