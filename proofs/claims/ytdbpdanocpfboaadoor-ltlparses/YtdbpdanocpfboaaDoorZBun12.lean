import Derived.Test.YtdbpdanocpfboaaDoorZPq2
import Derived.Test.YtdbpdanocpfboaaDoorZBun11
/- The program's reader: its closures' memory; within, bracket, one. -/
namespace Go.Proofs.YtdbpdanocpfboaaDoor
open Go.RowKit

/-- a map of bytes to Ops -/
def MapB (W : World) (m : Nat) (l : List (Nat × Int)) : Prop := ∃ es clock, W.heap[m]? = some (.map es clock) ∧ es.toList.map (fun x => (x.key, x.val)) = l.map (fun x => (Value.int .u8 (x.1 : Int), Value.int .i64 x.2))
def lookM (l : List (Nat × Int)) (c : Nat) : Option Int := match l with
  | [] => none
  | x :: r => if c = x.1 then some x.2 else lookM r c
theorem findNow_look (c : Nat) : ∀ (l : List (Nat × Int)) (es : List MapEntry) (i : Nat), es.map (fun x => (x.key, x.val)) = l.map (fun x => (Value.int .u8 (x.1 : Int), Value.int .i64 x.2)) →
    (lookM l c = none ∧ Instr.findNow (.int .u8) (.int .u8 (c : Int)) es i = some none) ∨ ∃ x j, lookM l c = some x ∧ Instr.findNow (.int .u8) (.int .u8 (c : Int)) es i = some (some (j, .int .i64 x))
  | [], [], i, _ => .inl ⟨rfl, rfl⟩
  | (k, v) :: l, e :: es, i, h => by
    simp only [List.map_cons, List.cons.injEq, Prod.mk.injEq] at h
    obtain ⟨⟨h1, h2⟩, h3⟩ := h
    by_cases hc : c = k
    · refine .inr ⟨v, i, by simp [lookM, hc], ?_⟩
      simp [Instr.findNow, h1, h2, Instr.sameNow, hc]
    · have hn : ((c : Int) == (k : Int)) = false := by simp; omega
      rcases findNow_look c l es (i + 1) h3 with ⟨g1, g2⟩ | ⟨x, j, g1, g2⟩
      · refine .inl ⟨by simp [lookM, hc, g1], ?_⟩
        simp [Instr.findNow, h1, Instr.sameNow, hn, g2]
      · refine .inr ⟨x, j, by simp [lookM, hc, g1], ?_⟩
        simp [Instr.findNow, h1, Instr.sameNow, hn, g2]
theorem und164 : Tryd.prog.underlying 164 = some (.map 5 3) := by kernel_rfl
theorem und5 : Tryd.prog.underlying 5 = some (.int .u8) := by kernel_rfl
theorem MapB.look {W : World} {m : Nat} {l : List (Nat × Int)} (h : MapB W m l) (c : Nat) :
    (Instr.lookup 164 (.map (some m)) (.int .u8 (c : Int)) true).run Tryd.prog W = .ok (.tuple #[.int .i64 ((lookM l c).getD 0), .bool (lookM l c).isSome]) W := by
  obtain ⟨es, clock, hb, hm⟩ := h
  have hz : (zeroValue 3).run Tryd.prog W = .ok (.int .i64 0) W := by simp [go_sem]
  have hck : ∀ e : Bool, (Instr.checkKey e 10000 5 (.int .u8 (c : Int))).run Tryd.prog W = .ok () W := fun e => MapKept.run_checkKey und5 (by simp [MapKept.IsKey]) e 9999
  rcases findNow_look c l es.toList 0 hm with ⟨g1, g2⟩ | ⟨x, j, g1, g2⟩
  · simp [Instr.lookup, run_underlying und164, MapKept.run_getObj_map hb, hck, Instr.findKey, run_underlying und5, g2, hz, g1, Result.andThen]
  · simp [Instr.lookup, run_underlying und164, MapKept.run_getObj_map hb, hck, Instr.findKey, run_underlying und5, g2, g1, Result.andThen]
theorem MapB.keptS {W W' : World} {m : Nat} {l : List (Nat × Int)} (h : MapB W m l) {S : Nat → Prop} (hk : Kept S W W') (hm : ¬ S m) : MapB W' m l := by
  obtain ⟨es, clock, hb, hm'⟩ := h
  exact ⟨es, clock, (hk.block m (Array.getElem?_eq_some_iff.1 hb).1 hm).trans hb, hm'⟩

/-- where the reader's closures keep what they share -/
structure Ev where
  p : Nat
  br : Nat
  bl : Nat
  ba : Nat
  bR : Nat
  bO : Nat
  bB : Nat
  m0 : Nat
  m1 : Nat
  m2 : Nat
  m3 : Nat
  ma : Nat
def Ev.far (E : Ev) (k : Nat) : Prop := k = 0 ∨ k = E.br ∨ k = E.bl ∨ k = E.ba ∨ k = E.bR ∨ k = E.bO ∨ k = E.bB ∨ k = E.m0 ∨ k = E.m1 ∨ k = E.m2 ∨ k = E.m3 ∨ k = E.ma
structure EnvOk (E : Ev) (W : World) : Prop where
  tab : TabS W
  r : W.cell? ⟨E.br, 0, none⟩ = some (.pointer (some ⟨E.p, 0, none⟩))
  l0 : W.cell? ⟨E.bl, 0, none⟩ = some (.map (some E.m0)) ∧ W.cell? ⟨E.bl, 1, none⟩ = some (.string ⟨#[62]⟩) ∧ W.cell? ⟨E.bl, 2, none⟩ = some (.bool true)
  l1 : W.cell? ⟨E.bl, 3, none⟩ = some (.map (some E.m1)) ∧ W.cell? ⟨E.bl, 4, none⟩ = some (.string ⟨#[]⟩) ∧ W.cell? ⟨E.bl, 5, none⟩ = some (.bool false)
  l2 : W.cell? ⟨E.bl, 6, none⟩ = some (.map (some E.m2)) ∧ W.cell? ⟨E.bl, 7, none⟩ = some (.string ⟨#[]⟩) ∧ W.cell? ⟨E.bl, 8, none⟩ = some (.bool false)
  l3 : W.cell? ⟨E.bl, 9, none⟩ = some (.map (some E.m3)) ∧ W.cell? ⟨E.bl, 10, none⟩ = some (.string ⟨#[]⟩) ∧ W.cell? ⟨E.bl, 11, none⟩ = some (.bool true)
  a : W.cell? ⟨E.ba, 0, none⟩ = some (.map (some E.ma))
  fR : W.cell? ⟨E.bR, 0, none⟩ = some (.func (.func 118) #[] #[.pointer (some ⟨E.bO, 0, none⟩), .pointer (some ⟨E.bl, 0, none⟩), .pointer (some ⟨E.bR, 0, none⟩), .pointer (some ⟨E.br, 0, none⟩)])
  fO : W.cell? ⟨E.bO, 0, none⟩ = some (.func (.func 114) #[] #[.pointer (some ⟨E.br, 0, none⟩), .pointer (some ⟨E.ba, 0, none⟩), .pointer (some ⟨E.bO, 0, none⟩), .pointer (some ⟨E.bB, 0, none⟩)])
  fB : W.cell? ⟨E.bB, 0, none⟩ = some (.func (.func 112) #[] #[.pointer (some ⟨E.bR, 0, none⟩), .pointer (some ⟨E.br, 0, none⟩)])
  g0 : MapB W E.m0 [(45, 6)]
  g1 : MapB W E.m1 [(124, 5)]
  g2 : MapB W E.m2 [(38, 4)]
  g3 : MapB W E.m3 [(85, 8), (82, 9)]
  ga : MapB W E.ma [(33, 3), (88, 7), (70, 10), (71, 11)]
theorem EnvOk.keptS {E : Ev} {W W' : World} (h : EnvOk E W) {S : Nat → Prop} (hk : Kept S W W') (hS : ∀ k, E.far k → ¬ S k) : EnvOk E W' := by
  have c : ∀ {a : Addr} {v : Value}, W.cell? a = some v → E.far a.block → W'.cell? a = some v := fun {a v} e hf => (hk.cell (p := a) (lt_of_cell e) (hS _ hf)).trans e
  obtain ⟨t, r, ⟨x0, x1, x2⟩, ⟨x3, x4, x5⟩, ⟨x6, x7, x8⟩, ⟨x9, x10, x11⟩, a, fR, fO, fB, g0, g1, g2, g3, ga⟩ := h
  refine ⟨t.keptS hk (hS _ (by simp [Ev.far])), c r (by simp [Ev.far]), ⟨c x0 (by simp [Ev.far]), c x1 (by simp [Ev.far]), c x2 (by simp [Ev.far])⟩, ⟨c x3 (by simp [Ev.far]), c x4 (by simp [Ev.far]), c x5 (by simp [Ev.far])⟩, ⟨c x6 (by simp [Ev.far]), c x7 (by simp [Ev.far]), c x8 (by simp [Ev.far])⟩, ⟨c x9 (by simp [Ev.far]), c x10 (by simp [Ev.far]), c x11 (by simp [Ev.far])⟩, c a (by simp [Ev.far]), c fR (by simp [Ev.far]), c fO (by simp [Ev.far]), c fB (by simp [Ev.far]), g0.keptS hk (hS _ (by simp [Ev.far])), g1.keptS hk (hS _ (by simp [Ev.far])), g2.keptS hk (hS _ (by simp [Ev.far])), g3.keptS hk (hS _ (by simp [Ev.far])), ga.keptS hk (hS _ (by simp [Ev.far]))⟩
theorem EnvOk.kept {E : Ev} {W W' : World} (h : EnvOk E W) (hk : Kept (fun _ => False) W W') : EnvOk E W' := h.keptS hk (fun _ _ f => f)
/-- a reader that stands ready -/
structure Rdy (E : Ev) (W : World) (s : ByteArray) (I D : Nat) : Prop where
  env : EnvOk E W
  far : ¬ E.far E.p
  st : Rst W E.p s I D
theorem Rdy.kept {E : Ev} {W W' : World} {s : ByteArray} {I D : Nat} (h : Rdy E W s I D) (hk : Kept (fun _ => False) W W') : Rdy E W' s I D := ⟨h.env.kept hk, h.far, h.st.kept hk⟩
theorem Rdy.on {E : Ev} {W W' : World} {s : ByteArray} {I D I' D' : Nat} (h : Rdy E W s I D) (hk : Kept (fun k => k = E.p) W W') (hs : Rst W' E.p s I' D') : Rdy E W' s I' D' := ⟨h.env.keptS hk (fun _ hf e => h.far (e ▸ hf)), h.far, hs⟩
theorem lookA (c : Nat) : lookM [(33, 3), (88, 7), (70, 10), (71, 11)] c = ahd c := rfl
theorem look0 (c : Nat) : lookM [(45, 6)] c = sgn 0 c := rfl
theorem look1 (c : Nat) : lookM [(124, 5)] c = sgn 1 c := rfl
theorem look2 (c : Nat) : lookM [(38, 4)] c = sgn 2 c := rfl
theorem look3 (c : Nat) : lookM [(85, 8), (82, 9)] c = sgn 3 c := rfl

/-! ### what is answered -/
theorem PostQ.pre {w w1 W : World} {p : Nat} {s : ByteArray} {D : Nat} {q : PRes} {e : Ending} (k : Kept (fun k => k = p) w w1) (h : PostQ w1 p s D q e W) : PostQ w p s D q e W := by
  have hs := k.size
  refine ⟨k.trans h.1 (fun _ _ e => e), ?_⟩
  cases q with
  | ok t j =>
    obtain ⟨v, he, hr, hf⟩ := h.2
    exact ⟨v, he, hr, hf.keep (fun b hb => ⟨by omega, hb.2⟩) (fun _ _ => rfl)⟩
  | err x a => exact h.2
theorem PostQ.err {w W : World} {p : Nat} {s : ByteArray} {D : Nat} {x : Int} {a : Nat} (k : Kept (fun k => k = p) w W) : PostQ w p s D (.err x a) (faultE x a) W := ⟨k, rfl⟩

def Ev.capO (E : Ev) : Array Value := #[.pointer (some ⟨E.br, 0, none⟩), .pointer (some ⟨E.ba, 0, none⟩), .pointer (some ⟨E.bO, 0, none⟩), .pointer (some ⟨E.bB, 0, none⟩)]
def CallO (E : Ev) (s : ByteArray) (w : World) (i D : Nat) : Prop :=
  Calls Tryd.prog 114 #[.pointer (some ⟨E.br, 0, none⟩), .pointer (some ⟨E.ba, 0, none⟩), .pointer (some ⟨E.bO, 0, none⟩), .pointer (some ⟨E.bB, 0, none⟩)] w fun e w' => ∃ q, PS s .one i D q ∧ PostQ w E.p s D q e w'
def CallD (E : Ev) (s : ByteArray) (row : Nat) (w : World) (i D : Nat) : Prop :=
  Calls Tryd.prog 118 #[.int .i64 (row : Int), .pointer (some ⟨E.bO, 0, none⟩), .pointer (some ⟨E.bl, 0, none⟩), .pointer (some ⟨E.bR, 0, none⟩), .pointer (some ⟨E.br, 0, none⟩)] w fun e w' => ∃ q, PS s (.read row) i D q ∧ PostQ w E.p s D q e w'
/-- what stands in brackets, and the bracket behind it -/
def brQ (s : ByteArray) : PRes → PRes
  | .ok f j => if byteN s j = 41 then .ok f (j + 1) else .err 2 j
  | .err x a => .err x a
def CallB (E : Ev) (s : ByteArray) (w : World) (i D : Nat) : Prop :=
  Calls Tryd.prog 112 #[.pointer (some ⟨E.bR, 0, none⟩), .pointer (some ⟨E.br, 0, none⟩)] w fun e w' => ∃ q, PS s (.read 0) i D q ∧ PostQ w E.p s D (brQ s q) e w'
structure SaysQ (E : Ev) (s : ByteArray) (N : Nat) : Prop where
  one : ∀ w i D, Rdy E w s i D → i ≤ s.size → D ≤ 20 → 8 * (s.size - i) ≤ N → CallO E s w i D
  read : ∀ row w i D, row ≤ 4 → Rdy E w s i D → i ≤ s.size → D ≤ 20 → 8 * (s.size - i) + 5 ≤ N + row → CallD E s row w i D
theorem PostQ.fin {w w1 W : World} {p r : Nat} {s : ByteArray} {D : Nat} {t : Tr} {j : Nat} {v : Value} (h : PostQ w1 p s D (.ok t j) (.returned v) W) (k1 : Kept (fun _ => False) w w1) (hr : w.heap.size ≤ r) (hr1 : r < w1.heap.size) (hp : p < w.heap.size) (x y z : Value) :
    PostQ w p s D (.ok t j) (.returned v) (((W.setCell ⟨r, 0, none⟩ x).setCell ⟨r, 1, none⟩ y).setCell ⟨r, 2, none⟩ z) := by
  have hk : Kept (fun k => k = r) W (((W.setCell ⟨r, 0, none⟩ x).setCell ⟨r, 1, none⟩ y).setCell ⟨r, 2, none⟩ z) := (((Kept.refl (fun k => k = r) W).setCell (p := ⟨r, 0, none⟩) (fun _ => rfl) _).setCell (p := ⟨r, 1, none⟩) (fun _ => rfl) _).setCell (p := ⟨r, 2, none⟩) (fun _ => rfl) _
  have hne : p ≠ r := by omega
  obtain ⟨v', he, hs, hf⟩ := h.2
  cases he
  exact ⟨((k1.mono (T := fun k => k = p) (fun _ _ f => f.elim)).trans h.1 (fun _ _ e => e)).trans hk (fun k hk e => by omega), v, rfl, hs.keptS hk hne, FVS.keep hf (fun b hb => ⟨Nat.le_trans k1.size hb.1, by simpa [World.setCell] using hb.2⟩) (fun b hb => hk.block b hb.2 (fun e => by have := hb.1; omega))⟩
theorem PostQ.al {w W : World} {p : Nat} {s : ByteArray} {D : Nat} {t : Tr} {j : Nat} {v : Value} (h : PostQ w p s D (.ok t j) (.returned v) W) (o : Obj) : PostQ w p s D (.ok t j) (.returned v) (W.alloc o) := by
  have hk : Kept (fun _ => False) W (W.alloc o) := (Kept.refl _ _).alloc _
  obtain ⟨v', he, hs, hf⟩ := h.2
  cases he
  exact ⟨h.1.alloc _, v, rfl, hs.kept hk, FVS.keep hf (fun b hb => ⟨hb.1, Nat.lt_of_lt_of_le hb.2 hk.size⟩) (fun b hb => hk.block b hb.2 (fun f => f))⟩
theorem PostQ.on {w W W' : World} {p : Nat} {s : ByteArray} {D D' : Nat} {t : Tr} {j j' : Nat} {v : Value} (h : PostQ w p s D (.ok t j) (.returned v) W) (hk : Kept (fun k => k = p) W W') (hP : Rst W' p s j' D') (hp : p < w.heap.size) : PostQ w p s D' (.ok t j') (.returned v) W' := by
  obtain ⟨v', he, hs, hf⟩ := h.2
  cases he
  exact ⟨h.1.trans hk (fun _ _ e => e), v, rfl, hP, FVS.keep hf (fun b hb => ⟨hb.1, Nat.lt_of_lt_of_le hb.2 hk.size⟩) (fun b hb => hk.block b hb.2 (fun e => by have := hb.1; omega))⟩
theorem PostQ.st {w W : World} {p : Nat} {s : ByteArray} {D : Nat} {t : Tr} {j : Nat} {e : Ending} (h : PostQ w p s D (.ok t j) e W) : Rst W p s j D := h.2.choose_spec.2.1
theorem PostQ.val {w W : World} {p : Nat} {s : ByteArray} {D : Nat} {t : Tr} {j : Nat} {e : Ending} (h : PostQ w p s D (.ok t j) e W) : ∃ o n a l c, e = .returned (.agg #[.int .i64 o, .int .i64 n, .slice a l c]) := by
  obtain ⟨v, he, hs, hf⟩ := h.2
  obtain ⟨o, n, a, l, c, rfl⟩ := FVS.agg hf
  exact ⟨_, _, _, _, _, he⟩

set_option maxRecDepth 100000 in
set_option maxHeartbeats 2000000 in
theorem within116_deep (w : World) (p : Nat) (s : ByteArray) (i : Nat) (fn : Fn) (x y : Array Value) (h : Rst w p s i 20) :
    Calls Tryd.prog 116 #[.pointer (some ⟨p, 0, none⟩), .func fn x y] w fun e w' => e = faultE 3 i ∧ Kept (fun k => k = p) w w' := by
  obtain ⟨w1, hw1⟩ : ∃ w1, w1 = w.alloc (.cells #[.int .i64 0, .int .i64 0, .slice none 0 0] 24) := ⟨_, rfl⟩
  have k1 : Kept (fun _ => False) w w1 := by rw [hw1]; exact (Kept.refl _ _).alloc _
  have H : Hid (Rst w1 p s i 20) := h.kept k1
  go_enter Tryd.func116, Tryd.ntmps116
  go_upto_region 1 with fail
  rw [← hw1]
  clear hw1 h
  obtain ⟨c0, c1, c2, f1, f2⟩ := id H.out
  go_wp2_with (go_at_call 119; refine (fail119 _ p s i 20 3 H.out).mono ?_; rintro e w2 ⟨he, hx⟩; rw [hx]; rw [faultE] at he; subst he; clear hx)
  exact ⟨rfl, rfl, k1.mono (fun _ _ f => f.elim)⟩
end Go.Proofs.YtdbpdanocpfboaaDoor

/- The program's reader: within, bracket, one. -/
namespace Go.Proofs.YtdbpdanocpfboaaDoor
open Go.RowKit

theorem PostQ.errOf {w w1 W : World} {p : Nat} {s : ByteArray} {D D' : Nat} {x : Int} {a : Nat} {e : Ending} (k : Kept (fun k => k = p) w w1) (h : PostQ w1 p s D' (.err x a) e W) : PostQ w p s D (.err x a) e W := ⟨k.trans h.1 (fun _ _ e => e), h.2⟩

set_option maxRecDepth 100000 in
set_option maxHeartbeats 4000000 in
theorem within116_one (E : Ev) (s : ByteArray) (hs : s.size ≤ 200) (w : World) (i D : Nat) (h : Rdy E w s i D) (hi : i < s.size) (hD : D < 20) (hc : ∀ W, Rdy E W s (i + 1) (D + 1) → CallO E s W (i + 1) (D + 1)) :
    Calls Tryd.prog 116 #[.pointer (some ⟨E.p, 0, none⟩), .func (.func 114) #[] #[.pointer (some ⟨E.br, 0, none⟩), .pointer (some ⟨E.ba, 0, none⟩), .pointer (some ⟨E.bO, 0, none⟩), .pointer (some ⟨E.bB, 0, none⟩)]] w fun e w' => ∃ q, PS s .one (i + 1) (D + 1) q ∧ PostQ w E.p s D (q) e w' := by
  obtain ⟨w1, hw1⟩ : ∃ w1, w1 = w.alloc (.cells #[.int .i64 0, .int .i64 0, .slice none 0 0] 24) := ⟨_, rfl⟩
  have k1 : Kept (fun _ => False) w w1 := by rw [hw1]; exact (Kept.refl _ _).alloc _
  have hr : Wb3 w1 w.heap.size (.int .i64 0) (.int .i64 0) (.slice none 0 0) := by rw [hw1]; exact Wb3.new _ _ _ _ _
  have R1 : Hid (Rdy E w1 s i D) := h.kept k1
  have hpl := h.st.lt
  have hlr := hr.1
  have HC : Hid (∀ W, Rdy E W s (i + 1) (D + 1) → CallO E s W (i + 1) (D + 1)) := hc
  have hDe : ((D : Int) == 20) = false := by simp; omega
  have R2 : Hid (Rst ((w1.setCell ⟨E.p, 1, none⟩ (.int .i64 ((i + 1 : Nat) : Int))).setCell ⟨E.p, 2, none⟩ (.int .i64 ((D + 1 : Nat) : Int))) E.p s (i + 1) (D + 1)) := (R1.out.st.setI (i + 1)).setD (D + 1)
  have K2 : Hid (Kept (fun k => k = E.p) w1 ((w1.setCell ⟨E.p, 1, none⟩ (.int .i64 ((i + 1 : Nat) : Int))).setCell ⟨E.p, 2, none⟩ (.int .i64 ((D + 1 : Nat) : Int)))) := ((Kept.refl (fun k => k = E.p) w1).setCell (p := ⟨E.p, 1, none⟩) (fun _ => rfl) _).setCell (p := ⟨E.p, 2, none⟩) (fun _ => rfl) _
  have hin1 : wrap64 ((D : Int) + 1) = ((D + 1 : Nat) : Int) := by unfold wrap64; omega
  have hin2 : wrap64 ((i : Int) + 1) = ((i + 1 : Nat) : Int) := by unfold wrap64; omega
  have hin3 : wrap64 (((D + 1 : Nat) : Int) - 1) = (D : Int) := by unfold wrap64; omega
  go_enter Tryd.func116, Tryd.ntmps116
  go_upto_region 1 with fail
  rw [← hw1]
  clear hw1 h hc
  obtain ⟨c0, c1, c2, f1, f2⟩ := id R1.out.st
  go_upto_region 5 with fail
  obtain ⟨W2, hW2⟩ : ∃ W2, W2 = ((w1.setCell ⟨E.p, 1, none⟩ (.int .i64 ((i + 1 : Nat) : Int))).setCell ⟨E.p, 2, none⟩ (.int .i64 ((D + 1 : Nat) : Int))) := ⟨_, rfl⟩
  have hW2' : ((w1.setCell ⟨E.p, 1, none⟩ (.int .i64 ((i : Int) + 1))).setCell ⟨E.p, 2, none⟩ (.int .i64 ((D : Int) + 1))) = W2 := by rw [hW2]; rfl
  rw [← hW2] at R2 K2
  first | rw [hW2'] | rw [← hW2]
  clear hW2 hW2' c0 c1 c2 f1 f2 hin1 hin2 hDe
  have hr2 : Wb3 W2 w.heap.size (.int .i64 0) (.int .i64 0) (.slice none 0 0) := hr.keptS K2.out (by omega)
  have D2 : Hid (Rdy E W2 s (i + 1) (D + 1)) := R1.out.on K2.out R2.out
  have h12 := K2.out.size
  go_upto_region 6 with (go_at_call 114; refine (HC.out W2 D2.out).mono ?_; rintro e w3 ⟨q, hps, hpost⟩; rcases hq : q with ⟨t, j⟩ | ⟨x, a⟩; rotate_left; (rw [hq] at hpost; have hk3 := hpost.1; have he : e = faultE x a := hpost.2; rw [faultE] at he; subst he; exact ⟨rfl, q, hps, by rw [hq]; exact ⟨((k1.mono (T := fun k => k = E.p) (fun _ _ f => f.elim)).trans K2.out (fun _ _ e => e)).trans hk3 (fun _ _ e => e), rfl⟩⟩); (rw [hq] at hpost; obtain ⟨o1, n1, a1, l1, e1, rfl⟩ := hpost.val; have HPS : Hid (PS s .one (i + 1) (D + 1) q ∧ q = .ok t j) := ⟨hps, hq⟩; have HQ : Hid (PostQ W2 E.p s (D + 1) (.ok t j) (.returned (.agg #[.int .i64 o1, .int .i64 n1, .slice a1 l1 e1])) w3) := hpost; clear hps hq hpost))
  obtain ⟨w4, hw4⟩ : ∃ w4, w4 = w3.alloc (.cells #[.int .i64 o1, .int .i64 n1, .slice a1 l1 e1] 24) := ⟨_, rfl⟩
  have b4 : Wb3 w4 w3.heap.size (.int .i64 o1) (.int .i64 n1) (.slice a1 l1 e1) := by rw [hw4]; exact Wb3.new _ _ _ _ _
  have HQ4 : Hid (PostQ W2 E.p s (D + 1) (.ok t j) (.returned (.agg #[.int .i64 o1, .int .i64 n1, .slice a1 l1 e1])) w4) := by rw [hw4]; exact HQ.out.al _
  rw [← hw4]
  have h23 := HQ.out.1.size
  clear hw4 HQ
  have hr4 : Wb3 w4 w.heap.size (.int .i64 0) (.int .i64 0) (.slice none 0 0) := hr2.keptS HQ4.out.1 (by omega)
  have hp4 := HQ4.out.st
  have hn1 : ¬ w3.heap.size = E.p := by omega
  have hn2 : ¬ E.p = w3.heap.size := by omega
  have hn3 : ¬ w.heap.size = E.p := by omega
  have hn4 : ¬ E.p = w.heap.size := by omega
  have hn5 : ¬ w.heap.size = w3.heap.size := by omega
  have hn6 : ¬ w3.heap.size = w.heap.size := by omega
  have HQ5 : Hid (PostQ W2 E.p s D (.ok t j) (.returned (.agg #[.int .i64 o1, .int .i64 n1, .slice a1 l1 e1])) (w4.setCell ⟨E.p, 2, none⟩ (.int .i64 (D : Int)))) := HQ4.out.on ((Kept.refl (fun k => k = E.p) _).setCell (p := ⟨E.p, 2, none⟩) (fun _ => rfl) _) (hp4.setD D) (by omega)
  obtain ⟨c0, c1, c2, f1, f2⟩ := hp4
  obtain ⟨_, ⟨x0, x1, x2⟩, _⟩ := id b4
  obtain ⟨_, ⟨y0, y1, y2⟩, y3, y4, y5⟩ := id hr4
  have HX : Hid (E.p < w.heap.size ∧ w.heap.size < w1.heap.size) := ⟨hpl, hlr⟩
  go_wp2
  refine bodyPost_ret (v := .agg #[.int .i64 o1, .int .i64 n1, .slice a1 l1 e1]) (by simp [results, Tryd.results116, go_sem, y0, y1, y2]) rfl ⟨q, HPS.out.1, ?_⟩
  rw [HPS.out.2]
  exact (HQ5.out.pre K2.out).fin k1 (Nat.le_refl _) HX.out.2 HX.out.1 _ _ _

set_option maxRecDepth 100000 in
set_option maxHeartbeats 4000000 in
theorem within116_br (E : Ev) (s : ByteArray) (hs : s.size ≤ 200) (w : World) (i D : Nat) (h : Rdy E w s i D) (hi : i < s.size) (hD : D < 20) (hc : ∀ W, Rdy E W s (i + 1) (D + 1) → CallB E s W (i + 1) (D + 1)) :
    Calls Tryd.prog 116 #[.pointer (some ⟨E.p, 0, none⟩), .func (.func 112) #[] #[.pointer (some ⟨E.bR, 0, none⟩), .pointer (some ⟨E.br, 0, none⟩)]] w fun e w' => ∃ q, PS s (.read 0) (i + 1) (D + 1) q ∧ PostQ w E.p s D (brQ s q) e w' := by
  obtain ⟨w1, hw1⟩ : ∃ w1, w1 = w.alloc (.cells #[.int .i64 0, .int .i64 0, .slice none 0 0] 24) := ⟨_, rfl⟩
  have k1 : Kept (fun _ => False) w w1 := by rw [hw1]; exact (Kept.refl _ _).alloc _
  have hr : Wb3 w1 w.heap.size (.int .i64 0) (.int .i64 0) (.slice none 0 0) := by rw [hw1]; exact Wb3.new _ _ _ _ _
  have R1 : Hid (Rdy E w1 s i D) := h.kept k1
  have hpl := h.st.lt
  have hlr := hr.1
  have HC : Hid (∀ W, Rdy E W s (i + 1) (D + 1) → CallB E s W (i + 1) (D + 1)) := hc
  have hDe : ((D : Int) == 20) = false := by simp; omega
  have R2 : Hid (Rst ((w1.setCell ⟨E.p, 1, none⟩ (.int .i64 ((i + 1 : Nat) : Int))).setCell ⟨E.p, 2, none⟩ (.int .i64 ((D + 1 : Nat) : Int))) E.p s (i + 1) (D + 1)) := (R1.out.st.setI (i + 1)).setD (D + 1)
  have K2 : Hid (Kept (fun k => k = E.p) w1 ((w1.setCell ⟨E.p, 1, none⟩ (.int .i64 ((i + 1 : Nat) : Int))).setCell ⟨E.p, 2, none⟩ (.int .i64 ((D + 1 : Nat) : Int)))) := ((Kept.refl (fun k => k = E.p) w1).setCell (p := ⟨E.p, 1, none⟩) (fun _ => rfl) _).setCell (p := ⟨E.p, 2, none⟩) (fun _ => rfl) _
  have hin1 : wrap64 ((D : Int) + 1) = ((D + 1 : Nat) : Int) := by unfold wrap64; omega
  have hin2 : wrap64 ((i : Int) + 1) = ((i + 1 : Nat) : Int) := by unfold wrap64; omega
  have hin3 : wrap64 (((D + 1 : Nat) : Int) - 1) = (D : Int) := by unfold wrap64; omega
  go_enter Tryd.func116, Tryd.ntmps116
  go_upto_region 1 with fail
  rw [← hw1]
  clear hw1 h hc
  obtain ⟨c0, c1, c2, f1, f2⟩ := id R1.out.st
  go_upto_region 5 with fail
  obtain ⟨W2, hW2⟩ : ∃ W2, W2 = ((w1.setCell ⟨E.p, 1, none⟩ (.int .i64 ((i + 1 : Nat) : Int))).setCell ⟨E.p, 2, none⟩ (.int .i64 ((D + 1 : Nat) : Int))) := ⟨_, rfl⟩
  have hW2' : ((w1.setCell ⟨E.p, 1, none⟩ (.int .i64 ((i : Int) + 1))).setCell ⟨E.p, 2, none⟩ (.int .i64 ((D : Int) + 1))) = W2 := by rw [hW2]; rfl
  rw [← hW2] at R2 K2
  first | rw [hW2'] | rw [← hW2]
  clear hW2 hW2' c0 c1 c2 f1 f2 hin1 hin2 hDe
  have hr2 : Wb3 W2 w.heap.size (.int .i64 0) (.int .i64 0) (.slice none 0 0) := hr.keptS K2.out (by omega)
  have D2 : Hid (Rdy E W2 s (i + 1) (D + 1)) := R1.out.on K2.out R2.out
  have h12 := K2.out.size
  go_upto_region 6 with (go_at_call 112; refine (HC.out W2 D2.out).mono ?_; rintro e w3 ⟨q, hps, hpost⟩; rcases hq : brQ s q with ⟨t, j⟩ | ⟨x, a⟩; rotate_left; (rw [hq] at hpost; have hk3 := hpost.1; have he : e = faultE x a := hpost.2; rw [faultE] at he; subst he; exact ⟨rfl, q, hps, by rw [hq]; exact ⟨((k1.mono (T := fun k => k = E.p) (fun _ _ f => f.elim)).trans K2.out (fun _ _ e => e)).trans hk3 (fun _ _ e => e), rfl⟩⟩); (rw [hq] at hpost; obtain ⟨o1, n1, a1, l1, e1, rfl⟩ := hpost.val; have HPS : Hid (PS s (.read 0) (i + 1) (D + 1) q ∧ brQ s q = .ok t j) := ⟨hps, hq⟩; have HQ : Hid (PostQ W2 E.p s (D + 1) (.ok t j) (.returned (.agg #[.int .i64 o1, .int .i64 n1, .slice a1 l1 e1])) w3) := hpost; clear hps hq hpost))
  obtain ⟨w4, hw4⟩ : ∃ w4, w4 = w3.alloc (.cells #[.int .i64 o1, .int .i64 n1, .slice a1 l1 e1] 24) := ⟨_, rfl⟩
  have b4 : Wb3 w4 w3.heap.size (.int .i64 o1) (.int .i64 n1) (.slice a1 l1 e1) := by rw [hw4]; exact Wb3.new _ _ _ _ _
  have HQ4 : Hid (PostQ W2 E.p s (D + 1) (.ok t j) (.returned (.agg #[.int .i64 o1, .int .i64 n1, .slice a1 l1 e1])) w4) := by rw [hw4]; exact HQ.out.al _
  rw [← hw4]
  have h23 := HQ.out.1.size
  clear hw4 HQ
  have hr4 : Wb3 w4 w.heap.size (.int .i64 0) (.int .i64 0) (.slice none 0 0) := hr2.keptS HQ4.out.1 (by omega)
  have hp4 := HQ4.out.st
  have hn1 : ¬ w3.heap.size = E.p := by omega
  have hn2 : ¬ E.p = w3.heap.size := by omega
  have hn3 : ¬ w.heap.size = E.p := by omega
  have hn4 : ¬ E.p = w.heap.size := by omega
  have hn5 : ¬ w.heap.size = w3.heap.size := by omega
  have hn6 : ¬ w3.heap.size = w.heap.size := by omega
  have HQ5 : Hid (PostQ W2 E.p s D (.ok t j) (.returned (.agg #[.int .i64 o1, .int .i64 n1, .slice a1 l1 e1])) (w4.setCell ⟨E.p, 2, none⟩ (.int .i64 (D : Int)))) := HQ4.out.on ((Kept.refl (fun k => k = E.p) _).setCell (p := ⟨E.p, 2, none⟩) (fun _ => rfl) _) (hp4.setD D) (by omega)
  obtain ⟨c0, c1, c2, f1, f2⟩ := hp4
  obtain ⟨_, ⟨x0, x1, x2⟩, _⟩ := id b4
  obtain ⟨_, ⟨y0, y1, y2⟩, y3, y4, y5⟩ := id hr4
  have HX : Hid (E.p < w.heap.size ∧ w.heap.size < w1.heap.size) := ⟨hpl, hlr⟩
  go_wp2
  refine bodyPost_ret (v := .agg #[.int .i64 o1, .int .i64 n1, .slice a1 l1 e1]) (by simp [results, Tryd.results116, go_sem, y0, y1, y2]) rfl ⟨q, HPS.out.1, ?_⟩
  rw [HPS.out.2]
  exact (HQ5.out.pre K2.out).fin k1 (Nat.le_refl _) HX.out.2 HX.out.1 _ _ _
end Go.Proofs.YtdbpdanocpfboaaDoor

/- The program's reader: bracket, one. -/
namespace Go.Proofs.YtdbpdanocpfboaaDoor
open Go.RowKit

theorem FVS.one1 {S : Nat → Prop} {w : World} {o1 n1 : Int} {a1 : Option Addr} {l1 c1 : Nat} {t : Tr} (h : FVS S w (.agg #[.int .i64 o1, .int .i64 n1, .slice a1 l1 c1]) t) (hS : ∀ b, S b → b < w.heap.size) (op : Int) (T : TypeId) :
    FVS (fun b => S b ∨ b = w.heap.size) (w.alloc (.cells #[.int .i64 o1, .int .i64 n1, .slice a1 l1 c1] T)) (.agg #[.int .i64 op, .int .i64 0, .slice (some ⟨w.heap.size, 0, none⟩) 1 1]) (.mk op 0 [t]) := by
  obtain ⟨o, n, ks⟩ := t
  obtain ⟨ka, kb, ko, kc, e, e1, g⟩ := h
  injection e with e
  simp only [Array.mk.injEq, List.cons.injEq, Value.int.injEq, true_and, Value.slice.injEq, and_true] at e
  obtain ⟨rfl, rfl, rfl, rfl, rfl⟩ := e
  have kW : Kept (fun _ => False) w (w.alloc (.cells #[.int .i64 o1, .int .i64 n1, .slice a1 ks.length c1] T)) := (Kept.refl _ _).alloc _
  refine ⟨some ⟨w.heap.size, 0, none⟩, w.heap.size, 0, 1, rfl, fun _ => rfl, ⟨.inr rfl, ⟨_, _, (Go.MapKept.heap_alloc w _).1⟩, ?_, ?_, a1, kb, ko, c1, ?_, e1, FsS.keep (fun b hb => Or.inl hb) (fun b hb => kW.block b (hS b hb) (fun f => f)) g⟩, trivial⟩
  all_goals (rw [World.cell?_alloc_at (hn := rfl)]; rfl)

theorem PostQ.one1 {w W : World} {p : Nat} {s : ByteArray} {D : Nat} {t : Tr} {j : Nat} {o1 n1 : Int} {a1 : Option Addr} {l1 e1 : Nat} (h : PostQ w p s D (.ok t j) (.returned (.agg #[.int .i64 o1, .int .i64 n1, .slice a1 l1 e1])) W) (op : Int) (T : TypeId) :
    PostQ w p s D (.ok (.mk op 0 [t]) j) (.returned (.agg #[.int .i64 op, .int .i64 0, .slice (some ⟨W.heap.size, 0, none⟩) 1 1])) (W.alloc (.cells #[.int .i64 o1, .int .i64 n1, .slice a1 l1 e1] T)) := by
  obtain ⟨v', he, hs, hf⟩ := h.2
  cases he
  have hk : Kept (fun _ => False) W (W.alloc (.cells #[.int .i64 o1, .int .i64 n1, .slice a1 l1 e1] T)) := (Kept.refl _ _).alloc _
  have h1 := h.1.size
  have h2 : W.heap.size < (W.alloc (.cells #[.int .i64 o1, .int .i64 n1, .slice a1 l1 e1] T)).heap.size := by simp
  refine ⟨h.1.alloc _, _, rfl, hs.kept hk, FVS.keep (FVS.one1 hf (fun b hb => hb.2) op T) (fun b hb => ?_) (fun _ _ => rfl)⟩
  rcases hb with hb | rfl
  · exact ⟨hb.1, by omega⟩
  · exact ⟨h1, h2⟩

set_option maxRecDepth 100000 in
set_option maxHeartbeats 4000000 in
theorem br112 (E : Ev) (s : ByteArray) (hs : s.size ≤ 200) (w : World) (i D : Nat) (h : Rdy E w s i D) (hi : i ≤ s.size) (hc : ∀ W, Rdy E W s i D → CallD E s 0 W i D) : CallB E s w i D := by
  obtain ⟨w1, hw1⟩ : ∃ w1, w1 = w.alloc (.cells #[.int .i64 0, .int .i64 0, .slice none 0 0] 24) := ⟨_, rfl⟩
  have k1 : Kept (fun _ => False) w w1 := by rw [hw1]; exact (Kept.refl _ _).alloc _
  have hr : Wb3 w1 w.heap.size (.int .i64 0) (.int .i64 0) (.slice none 0 0) := by rw [hw1]; exact Wb3.new _ _ _ _ _
  have R1 : Hid (Rdy E w1 s i D) := h.kept k1
  have hpl := h.st.lt
  have hlr := hr.1
  have HC : Hid (∀ W, Rdy E W s i D → CallD E s 0 W i D) := hc
  unfold CallB
  go_enter Tryd.func112, Tryd.ntmps112
  go_upto_region 1 with fail
  rw [← hw1]
  clear hw1 h hc
  have eR := R1.out.env.fR
  go_upto_region 2 with (go_at_call 118; refine (HC.out w1 R1.out).mono ?_; rintro e w3 ⟨q, hps, hpost⟩; rcases q with ⟨t, j⟩ | ⟨x, a⟩; rotate_left; (have hk3 := hpost.1; have he : e = faultE x a := hpost.2; rw [faultE] at he; subst he; exact ⟨rfl, .err x a, hps, (k1.mono (T := fun k => k = E.p) (fun _ _ f => f.elim)).trans hk3 (fun _ _ e => e), rfl⟩); (obtain ⟨o1, n1, a1, l1, e1, rfl⟩ := hpost.val; have HPS : Hid (PS s (.read 0) i D (.ok t j)) := hps; have HQ : Hid (PostQ w1 E.p s D (.ok t j) (.returned (.agg #[.int .i64 o1, .int .i64 n1, .slice a1 l1 e1])) w3) := hpost; clear hps hpost))
  obtain ⟨w4, hw4⟩ : ∃ w4, w4 = w3.alloc (.cells #[.int .i64 o1, .int .i64 n1, .slice a1 l1 e1] 24) := ⟨_, rfl⟩
  have b4 : Wb3 w4 w3.heap.size (.int .i64 o1) (.int .i64 n1) (.slice a1 l1 e1) := by rw [hw4]; exact Wb3.new _ _ _ _ _
  have HQ4 : Hid (PostQ w1 E.p s D (.ok t j) (.returned (.agg #[.int .i64 o1, .int .i64 n1, .slice a1 l1 e1])) w4) := by rw [hw4]; exact HQ.out.al _
  rw [← hw4]
  have h23 := HQ.out.1.size
  clear hw4 HQ eR
  have R4 : Hid (Rdy E w4 s j D) := R1.out.on HQ4.out.1 HQ4.out.st
  have hr4 : Wb3 w4 w.heap.size (.int .i64 0) (.int .i64 0) (.slice none 0 0) := hr.keptS HQ4.out.1 (by omega)
  have er := R4.out.env.r
  have hj : j ≤ s.size := (HPS.out.info hi rfl).2.2.1
  have hn : w3.heap.size ≠ E.p := by omega
  by_cases h41 : byteN s j = 41
  · have hlt : j < s.size := lt_of_byteN (by omega)
    have hbr : Hid (brQ s (.ok t j) = .ok t (j + 1)) := by simp [Hid, brQ, h41]
    go_upto_region 3 with (go_at_call 113; refine (exact113_yes w4 E.p s j D 41 R4.out.st hs hlt h41).mono ?_; rintro e w5 ⟨rfl, hp5, k5⟩)
    have HQ5 : Hid (PostQ w1 E.p s D (.ok t (j + 1)) (.returned (.agg #[.int .i64 o1, .int .i64 n1, .slice a1 l1 e1])) w5) := HQ4.out.on k5 hp5 (by omega)
    obtain ⟨_, ⟨x0, x1, x2⟩, _⟩ := b4.keptS k5 hn
    obtain ⟨_, ⟨y0, y1, y2⟩, y3, y4, y5⟩ := hr4.keptS k5 (by omega)
    clear k5 hp5 h41 er
    go_wp2
    refine bodyPost_ret (v := .agg #[.int .i64 o1, .int .i64 n1, .slice a1 l1 e1]) (by simp [results, Tryd.results112, go_sem, y0, y1, y2]) rfl ⟨_, HPS.out, ?_⟩
    rw [hbr.out]
    exact HQ5.out.fin k1 (Nat.le_refl _) hlr hpl _ _ _
  · have hbr : Hid (brQ s (.ok t j) = .err 2 j) := by simp [Hid, brQ, h41]
    go_wp2_with (go_at_call 113; refine (exact113_not w4 E.p s j D 41 R4.out.st hj h41).mono ?_; rintro e w5 ⟨he, k5⟩; rw [faultE] at he; subst he)
    refine ⟨rfl, _, HPS.out, ?_⟩
    rw [hbr.out]
    exact ⟨((k1.mono (T := fun k => k = E.p) (fun _ _ f => f.elim)).trans HQ4.out.1 (fun _ _ e => e)).trans k5 (fun _ _ e => e), rfl⟩

theorem br_ok {s : ByteArray} {i d : Nat} {q : PRes} {t : Tr} {j : Nat} (h40 : byteN s (skipB s i) = 40) (hd : d ≠ 20) (h : PS s (.read 0) (skipB s i + 1) (d + 1) q) (hq : brQ s q = .ok t j) : PS s .one i d (.ok t j) := by
  cases q with
  | err => cases hq
  | ok f j' =>
    simp only [brQ] at hq
    split at hq
    · cases hq
      exact PS.open h40 hd h (by assumption)
    · cases hq
theorem br_err {s : ByteArray} {i d : Nat} {q : PRes} {x : Int} {a : Nat} (h40 : byteN s (skipB s i) = 40) (hd : d ≠ 20) (h : PS s (.read 0) (skipB s i + 1) (d + 1) q) (hq : brQ s q = .err x a) : PS s .one i d (.err x a) := by
  cases q with
  | err => cases hq; exact PS.oerr h40 hd h
  | ok f j' =>
    simp only [brQ] at hq
    split at hq
    · cases hq
    · cases hq
      exact PS.obad h40 hd h (by assumption)
set_option maxRecDepth 100000 in
set_option maxHeartbeats 4000000 in
theorem one114 (E : Ev) (s : ByteArray) (hs : s.size ≤ 200) (N : Nat) (w : World) (i D : Nat) (ih : i < s.size → SaysQ E s N) (h : Rdy E w s i D) (hi : i ≤ s.size) (hD : D ≤ 20) (hN : 8 * (s.size - i) ≤ N + 1) : CallO E s w i D := by
  obtain ⟨w1, hw1⟩ : ∃ w1, w1 = w.alloc (.cells #[.int .i64 0, .int .i64 0, .slice none 0 0] 24) := ⟨_, rfl⟩
  have k1 : Kept (fun _ => False) w w1 := by rw [hw1]; exact (Kept.refl _ _).alloc _
  have hr : Wb3 w1 w.heap.size (.int .i64 0) (.int .i64 0) (.slice none 0 0) := by rw [hw1]; exact Wb3.new _ _ _ _ _
  have R1 : Hid (Rdy E w1 s i D) := h.kept k1
  have hpl := h.st.lt
  have hlr := hr.1
  have IH : Hid (i < s.size → SaysQ E s N) := ih
  have hsk := le_skipB s i
  have htop := skipB_top (s := s) hi
  obtain ⟨j, hj⟩ : ∃ j, skipB s i = j := ⟨_, rfl⟩
  have HJ : Hid (skipB s i = j) := hj
  rw [hj] at hsk htop
  unfold CallO
  go_enter Tryd.func114, Tryd.ntmps114
  go_upto_region 1 with fail
  rw [← hw1]
  clear hw1 h ih hj
  have er := R1.out.env.r
  go_upto_region 2 with (go_at_call 115; refine (peek115 w1 E.p s i D R1.out.st hi hs).mono ?_; rintro e w2 ⟨rfl, hp2, k2⟩; rw [HJ.out] at hp2; rw [HJ.out])
  have R2 : Hid (Rdy E w2 s j D) := R1.out.on k2 hp2
  have hr2 : Wb3 w2 w.heap.size (.int .i64 0) (.int .i64 0) (.slice none 0 0) := hr.keptS k2 (by omega)
  have K2 : Hid (Kept (fun k => k = E.p) w1 w2) := k2
  have h12 := k2.size
  clear er hp2 k2
  have er := R2.out.env.r
  have ea := R2.out.env.a
  have eO := R2.out.env.fO
  have eB := R2.out.env.fB
  have hlk := R2.out.env.ga.look (byteN s j)
  rw [lookA] at hlk
  have HC : Hid (byteN s (skipB s i) = byteN s j) := by rw [Hid, HJ.out]
  have hpos : byteN s j ≠ 0 → j < s.size := lt_of_byteN
  have K12 : Hid (Kept (fun k => k = E.p) w w2) := (k1.mono (T := fun k => k = E.p) (fun _ _ f => f.elim)).trans K2.out (fun _ _ e => e)
  generalize hcc : byteN s j = c at *
  have HB : Hid (byteN s j = c) := hcc
  clear hcc
  rcases hop : ahd c with _ | op
  · rw [hop] at hlk
    by_cases h40 : c = 40
    · have hce : ((c : Int) == 40) = true := by simp; omega
      have HC40 : Hid (byteN s (skipB s i) = 40) := HC.out.trans h40
      have hlt : j < s.size := hpos (by omega)
      by_cases hd : D = 20
      · have HPS : Hid (PS s .one i D (.err 3 j)) := by
          have := PS.deep (s := s) (i := i) (.inr HC40.out)
          rw [HJ.out] at this
          rw [Hid, hd]
          exact this
        have st20 : Rst w2 E.p s j 20 := hd ▸ R2.out.st
        clear hd hop h40
        go_wp2_with (go_at_call 116; refine (within116_deep w2 E.p s j _ _ _ st20).mono ?_; rintro e w5 ⟨he, k5⟩; rw [faultE] at he; subst he)
        exact ⟨rfl, _, HPS.out, K12.out.trans k5 (fun _ _ e => e), rfl⟩
      · clear hop h40
        go_wp2_with (go_at_call 116; refine (within116_br E s hs w2 j D R2.out hlt (by omega) (fun W hW => br112 E s hs W (j + 1) (D + 1) hW (by omega) (fun W' hW' => (IH.out (by omega)).read 0 W' (j + 1) (D + 1) (by omega) hW' (by omega) (by omega) (by omega)))).mono ?_; rintro e w5 ⟨q, hps, hpost⟩; rcases hq : brQ s q with ⟨t, j2⟩ | ⟨x, a⟩; rotate_left; (rw [hq] at hpost; have hk3 := hpost.1; have he : e = faultE x a := hpost.2; rw [faultE] at he; subst he; exact ⟨rfl, .err x a, br_err HC40.out hd (by rw [HJ.out]; exact hps) hq, K12.out.trans hk3 (fun _ _ e => e), rfl⟩); (rw [hq] at hpost; obtain ⟨o1, n1, a1, l1, e1, rfl⟩ := hpost.val; have HPS : Hid (PS s .one i D (.ok t j2)) := br_ok HC40.out hd (by rw [HJ.out]; exact hps) hq; have HQ : Hid (PostQ w2 E.p s D (.ok t j2) (.returned (.agg #[.int .i64 o1, .int .i64 n1, .slice a1 l1 e1])) w5) := hpost; obtain ⟨_, ⟨y0, y1, y2⟩, y3, y4, y5⟩ := hr2.keptS hpost.1 (by omega); clear hps hq hpost))
        refine bodyPost_ret (v := .agg #[.int .i64 o1, .int .i64 n1, .slice a1 l1 e1]) (by simp [results, Tryd.results114, go_sem, y0, y1, y2]) rfl ⟨_, HPS.out, (HQ.out.pre K2.out).fin k1 (Nat.le_refl _) hlr hpl _ _ _⟩
    · have HPS : Hid (PS s .one i D (wordR s j)) := by
        have := PS.word (s := s) (i := i) (d := D) (by rw [HC.out]; exact hop) (by rw [HC.out]; exact h40)
        rw [HJ.out] at this
        exact this
      have hne : ((c : Int) == 40) = false := by simp; omega
      clear hop h40
      go_wp2_with (go_at_call 117; refine (word117 w2 E.p s j D R2.out.st R2.out.env.tab htop hs).mono ?_; rintro e w5 hpost; rcases hq : wordR s j with ⟨t, j2⟩ | ⟨x, a⟩; rotate_left; (rw [hq] at hpost; have hk3 := hpost.1; have he : e = faultE x a := hpost.2; rw [faultE] at he; subst he; exact ⟨rfl, .err x a, by rw [← hq]; exact HPS.out, K12.out.trans hk3 (fun _ _ e => e), rfl⟩); (rw [hq] at hpost; obtain ⟨o1, n1, a1, l1, e1, rfl⟩ := hpost.val; have HPS2 : Hid (PS s .one i D (.ok t j2)) := hq ▸ HPS.out; have HQ : Hid (PostQ w2 E.p s D (.ok t j2) (.returned (.agg #[.int .i64 o1, .int .i64 n1, .slice a1 l1 e1])) w5) := hpost; obtain ⟨_, ⟨y0, y1, y2⟩, y3, y4, y5⟩ := hr2.keptS hpost.1 (by omega); clear hq hpost))
      refine bodyPost_ret (v := .agg #[.int .i64 o1, .int .i64 n1, .slice a1 l1 e1]) (by simp [results, Tryd.results114, go_sem, y0, y1, y2]) rfl ⟨_, HPS2.out, (HQ.out.pre K2.out).fin k1 (Nat.le_refl _) hlr hpl _ _ _⟩
  · rw [hop] at hlk
    have hlt : j < s.size := hpos (ahd_ne hop).1
    by_cases hd : D = 20
    · have HPS : Hid (PS s .one i D (.err 3 j)) := by
        have := PS.deep (s := s) (i := i) (.inl ⟨op, by rw [HC.out]; exact hop⟩)
        rw [HJ.out] at this
        rw [Hid, hd]
        exact this
      have st20 : Rst w2 E.p s j 20 := hd ▸ R2.out.st
      clear hd hop
      go_wp2_with (go_at_call 116; refine (within116_deep w2 E.p s j _ _ _ st20).mono ?_; rintro e w5 ⟨he, k5⟩; rw [faultE] at he; subst he)
      exact ⟨rfl, _, HPS.out, K12.out.trans k5 (fun _ _ e => e), rfl⟩
    · have HOP : Hid (ahd c = some op) := hop
      clear hop
      go_wp2_with (go_at_call 116; refine (within116_one E s hs w2 j D R2.out hlt (by omega) (fun W hW => (IH.out (by omega)).one W (j + 1) (D + 1) hW (by omega) (by omega) (by omega))).mono ?_; rintro e w5 ⟨q, hps, hpost⟩; rcases q with ⟨t, j2⟩ | ⟨x, a⟩; rotate_left; (have hk3 := hpost.1; have he : e = faultE x a := hpost.2; rw [faultE] at he; subst he; exact ⟨rfl, .err x a, PS.sign (r := .err x a) (by rw [HC.out]; exact HOP.out) hd (by rw [HJ.out]; exact hps), K12.out.trans hk3 (fun _ _ e => e), rfl⟩); (obtain ⟨o1, n1, a1, l1, e1, rfl⟩ := hpost.val; have HPS : Hid (PS s .one i D (.ok (.mk op 0 [t]) j2)) := PS.sign (r := .ok t j2) (by rw [HC.out]; exact HOP.out) hd (by rw [HJ.out]; exact hps); have HQ : Hid (PostQ w2 E.p s D (.ok t j2) (.returned (.agg #[.int .i64 o1, .int .i64 n1, .slice a1 l1 e1])) w5) := hpost; obtain ⟨y9, ⟨y0, y1, y2⟩, y3, y4, y5⟩ := hr2.keptS hpost.1 (by omega); clear hps hpost))
      refine bodyPost_ret (v := .agg #[.int .i64 op, .int .i64 0, .slice (some ⟨w5.heap.size, 0, none⟩) 1 1]) (by simp [results, Tryd.results114, go_sem, y0, y1, y2, y9]) rfl ⟨_, HPS.out, ?_⟩
      have hcm : ((((w5.alloc (.cells #[.int .i64 o1, .int .i64 n1, .slice a1 l1 e1] 24)).setCell ⟨w.heap.size, 0, none⟩ (.int .i64 op)).setCell ⟨w.heap.size, 1, none⟩ (.int .i64 0)).setCell ⟨w.heap.size, 2, none⟩ (.slice (some ⟨w5.heap.size, 0, none⟩) 1 1)) = ((((w5.setCell ⟨w.heap.size, 0, none⟩ (.int .i64 op)).setCell ⟨w.heap.size, 1, none⟩ (.int .i64 0)).setCell ⟨w.heap.size, 2, none⟩ (.slice (some ⟨w5.heap.size, 0, none⟩) 1 1)).alloc (.cells #[.int .i64 o1, .int .i64 n1, .slice a1 l1 e1] 24)) := by simp [go_sem, y9]
      rw [← hcm]
      exact ((HQ.out.one1 op 24).pre K2.out).fin k1 (Nat.le_refl _) hlr hpl _ _ _
end Go.Proofs.YtdbpdanocpfboaaDoor

/- The program's reader: read. -/
namespace Go.Proofs.YtdbpdanocpfboaaDoor
open Go.RowKit

/-- what was read so far; nothing of it lies in the box bf -/
def PostY (bf : Nat) (w : World) (p : Nat) (s : ByteArray) (D : Nat) (t : Tr) (j : Nat) (v : Value) (w' : World) : Prop := Kept (fun k => k = p) w w' ∧ Rst w' p s j D ∧ FVS (fun b => w.heap.size ≤ b ∧ b < w'.heap.size ∧ b ≠ bf) w' v t
theorem PostQ.box {w W : World} {p : Nat} {s : ByteArray} {D : Nat} {t : Tr} {j : Nat} {v : Value} (h : PostQ w p s D (.ok t j) (.returned v) W) (o : Obj) : PostY W.heap.size w p s D t j v (W.alloc o) := by
  have hk : Kept (fun _ => False) W (W.alloc o) := (Kept.refl _ _).alloc _
  obtain ⟨v', he, hs, hf⟩ := h.2
  cases he
  exact ⟨h.1.alloc _, hs.kept hk, FVS.keep hf (fun b hb => ⟨hb.1, Nat.lt_of_lt_of_le hb.2 hk.size, by omega⟩) (fun b hb => hk.block b hb.2 (fun f => f))⟩
theorem PostY.on {bf : Nat} {w W W' : World} {p : Nat} {s : ByteArray} {D D' : Nat} {t : Tr} {j j' : Nat} {v : Value} (h : PostY bf w p s D t j v W) (hk : Kept (fun k => k = p) W W') (hP : Rst W' p s j' D') (hp : p < w.heap.size) : PostY bf w p s D' t j' v W' :=
  ⟨h.1.trans hk (fun _ _ e => e), hP, FVS.keep h.2.2 (fun b hb => ⟨hb.1, Nat.lt_of_lt_of_le hb.2.1 hk.size, hb.2.2⟩) (fun b hb => hk.block b hb.2.1 (fun e => by have := hb.1; omega))⟩
theorem PostY.post {bf : Nat} {w W : World} {p : Nat} {s : ByteArray} {D : Nat} {t : Tr} {j : Nat} {v : Value} (h : PostY bf w p s D t j v W) : PostQ w p s D (.ok t j) (.returned v) W :=
  ⟨h.1, v, rfl, h.2.1, FVS.keep h.2.2 (fun _ hb => ⟨hb.1, hb.2.1⟩) (fun _ _ => rfl)⟩
theorem PostY.store {bf : Nat} {w W : World} {p : Nat} {s : ByteArray} {D : Nat} {t : Tr} {j : Nat} {v : Value} (h : PostY bf w p s D t j v W) (hb : w.heap.size ≤ bf) (hp : p < w.heap.size) (x y z : Value) :
    PostY bf w p s D t j v (((W.setCell ⟨bf, 0, none⟩ x).setCell ⟨bf, 1, none⟩ y).setCell ⟨bf, 2, none⟩ z) := by
  have hk : Kept (fun k => k = bf) W (((W.setCell ⟨bf, 0, none⟩ x).setCell ⟨bf, 1, none⟩ y).setCell ⟨bf, 2, none⟩ z) := (((Kept.refl (fun k => k = bf) W).setCell (p := ⟨bf, 0, none⟩) (fun _ => rfl) _).setCell (p := ⟨bf, 1, none⟩) (fun _ => rfl) _).setCell (p := ⟨bf, 2, none⟩) (fun _ => rfl) _
  have hne : p ≠ bf := by omega
  exact ⟨h.1.trans hk (fun k hk e => by omega), h.2.1.keptS hk hne, FVS.keep h.2.2 (fun b hb => ⟨hb.1, by simpa [World.setCell] using hb.2.1, hb.2.2⟩) (fun b hb => hk.block b hb.2.1 hb.2.2)⟩
/-- two that were read, one behind the other, put together in a new block -/
theorem PostY.two {bf : Nat} {w1 W W2 : World} {p : Nat} {s : ByteArray} {D : Nat} {f g : Tr} {j j2 : Nat} {o1 n1 o2 n2 : Int} {a1 a2 : Option Addr} {l1 c1 l2 c2 : Nat} (hF : PostY bf w1 p s D f j (.agg #[.int .i64 o1, .int .i64 n1, .slice a1 l1 c1]) W) (hG : PostQ W p s D (.ok g j2) (.returned (.agg #[.int .i64 o2, .int .i64 n2, .slice a2 l2 c2])) W2) (hp : p < w1.heap.size) (hb : bf < W.heap.size) (op : Int) (T : TypeId) :
    PostY bf w1 p s D (binT op f g) j2 (.agg #[.int .i64 op, .int .i64 0, .slice (some ⟨W2.heap.size, 0, none⟩) 2 2]) (W2.alloc (.cells #[.int .i64 o1, .int .i64 n1, .slice a1 l1 c1, .int .i64 o2, .int .i64 n2, .slice a2 l2 c2] T)) := by
  have h1 := hF.1.size
  have h2 := hG.1.size
  obtain ⟨v', he, hs, hg⟩ := hG.2
  cases he
  have hk : Kept (fun _ => False) W2 (W2.alloc (.cells #[.int .i64 o1, .int .i64 n1, .slice a1 l1 c1, .int .i64 o2, .int .i64 n2, .slice a2 l2 c2] T)) := (Kept.refl _ _).alloc _
  have hlt : W2.heap.size < (W2.alloc (.cells #[.int .i64 o1, .int .i64 n1, .slice a1 l1 c1, .int .i64 o2, .int .i64 n2, .slice a2 l2 c2] T)).heap.size := by simp
  have rf := FVS.keep (S' := fun b => w1.heap.size ≤ b ∧ b < (W2.alloc (.cells #[.int .i64 o1, .int .i64 n1, .slice a1 l1 c1, .int .i64 o2, .int .i64 n2, .slice a2 l2 c2] T)).heap.size ∧ b ≠ bf) hF.2.2 (fun b hb => ⟨hb.1, by omega, hb.2.2⟩) (fun b hb => (hk.block b (by omega) (fun f => f)).trans (hG.1.block b hb.2.1 (fun e => by have := hb.1; omega)))
  have rg := FVS.keep (S' := fun b => w1.heap.size ≤ b ∧ b < (W2.alloc (.cells #[.int .i64 o1, .int .i64 n1, .slice a1 l1 c1, .int .i64 o2, .int .i64 n2, .slice a2 l2 c2] T)).heap.size ∧ b ≠ bf) hg (fun b hb => ⟨by omega, by omega, by omega⟩) (fun b hb => hk.block b hb.2 (fun f => f))
  obtain ⟨of, nf, kf⟩ := f
  obtain ⟨og, ng, kg⟩ := g
  obtain ⟨ka, kb, ko, kc, e, e1, q1⟩ := rf
  obtain ⟨ka2, kb2, ko2, kc2, e', e2, q2⟩ := rg
  injection e with e
  injection e' with e'
  simp only [Array.mk.injEq, List.cons.injEq, Value.int.injEq, true_and, Value.slice.injEq, and_true] at e e'
  obtain ⟨rfl, rfl, rfl, rfl, rfl⟩ := e
  obtain ⟨rfl, rfl, rfl, rfl, rfl⟩ := e'
  have hnew : w1.heap.size ≤ W2.heap.size ∧ W2.heap.size < (W2.alloc (.cells #[.int .i64 o1, .int .i64 n1, .slice a1 kf.length c1, .int .i64 o2, .int .i64 n2, .slice a2 kg.length c2] T)).heap.size ∧ W2.heap.size ≠ bf := ⟨by omega, hlt, by omega⟩
  refine ⟨(hF.1.trans hG.1 (fun _ _ e => e)).trans hk (fun _ _ f => f.elim), hs.kept hk, some ⟨W2.heap.size, 0, none⟩, W2.heap.size, 0, 2, rfl, fun _ => rfl, ⟨hnew, ⟨_, _, (Go.MapKept.heap_alloc W2 _).1⟩, ?_, ?_, a1, kb, ko, c1, ?_, e1, q1⟩, ⟨hnew, ⟨_, _, (Go.MapKept.heap_alloc W2 _).1⟩, ?_, ?_, a2, kb2, ko2, c2, ?_, e2, q2⟩, trivial⟩
  all_goals (rw [World.cell?_alloc_at (hn := rfl)]; rfl)

set_option maxRecDepth 100000 in
set_option maxHeartbeats 2000000 in
theorem read118_4 (E : Ev) (s : ByteArray) (w : World) (i D : Nat) (h : Rdy E w s i D) (hc : ∀ W, Rdy E W s i D → CallO E s W i D) : CallD E s 4 w i D := by
  obtain ⟨w1, hw1⟩ : ∃ w1, w1 = w.alloc (.cells #[.int .i64 0, .int .i64 0, .slice none 0 0] 24) := ⟨_, rfl⟩
  have k1 : Kept (fun _ => False) w w1 := by rw [hw1]; exact (Kept.refl _ _).alloc _
  have hr : Wb3 w1 w.heap.size (.int .i64 0) (.int .i64 0) (.slice none 0 0) := by rw [hw1]; exact Wb3.new _ _ _ _ _
  have R1 : Hid (Rdy E w1 s i D) := h.kept k1
  have hpl := h.st.lt
  have hlr := hr.1
  have HC : Hid (∀ W, Rdy E W s i D → CallO E s W i D) := hc
  unfold CallD
  go_enter Tryd.func118, Tryd.ntmps118
  go_upto_region 1 with fail
  rw [← hw1]
  clear hw1 h hc
  have eO := R1.out.env.fO
  go_wp2_with (go_at_call 114; refine (HC.out w1 R1.out).mono ?_; rintro e w3 ⟨q, hps, hpost⟩; rcases q with ⟨t, j⟩ | ⟨x, a⟩; rotate_left; (have hk3 := hpost.1; have he : e = faultE x a := hpost.2; rw [faultE] at he; subst he; exact ⟨rfl, .err x a, PS.bottom hps, (k1.mono (T := fun k => k = E.p) (fun _ _ f => f.elim)).trans hk3 (fun _ _ e => e), rfl⟩); (obtain ⟨o1, n1, a1, l1, e1, rfl⟩ := hpost.val; have HPS : Hid (PS s (.read 4) i D (.ok t j)) := PS.bottom hps; have HQ : Hid (PostQ w1 E.p s D (.ok t j) (.returned (.agg #[.int .i64 o1, .int .i64 n1, .slice a1 l1 e1])) w3) := hpost; obtain ⟨_, ⟨y0, y1, y2⟩, y3, y4, y5⟩ := hr.keptS hpost.1 (by omega); clear hps hpost))
  refine bodyPost_ret (v := .agg #[.int .i64 o1, .int .i64 n1, .slice a1 l1 e1]) (by simp [results, Tryd.results118, go_sem, y0, y1, y2]) rfl ⟨_, HPS.out, HQ.out.fin k1 (Nat.le_refl _) hlr hpl _ _ _⟩
end Go.Proofs.YtdbpdanocpfboaaDoor
