import Derived.Test.YtdbpdanocpfboaaDoorZPq6r0
import Derived.Test.YtdbpdanocpfboaaDoorZPq6r1
import Derived.Test.YtdbpdanocpfboaaDoorZPq6r2
import Derived.Test.YtdbpdanocpfboaaDoorZPq6r3
import Derived.Lib.Builder
import Derived.Laws.EntriesVeiled
/- The program's reader: the whole text. -/
namespace Go.Proofs.YtdbpdanocpfboaaDoor
open Go.RowKit Go.Lib

theorem run_makeMap (W : World) : (Instr.makeMap 164 none).run Tryd.prog W = .ok (.map (some W.heap.size)) (W.alloc (.map #[] 0)) := rfl
set_option maxRecDepth 20000 in
theorem run_ins {W : World} {es : Array MapEntry} {cl b : Nat} {k v : Int} (hb : b = W.heap.size) (hf : Instr.findNow (.int .u8) (.int .u8 k) es.toList 0 = some none) :
    (Instr.mapUpdate 164 (.map (some b)) (.int .u8 k) (.int .i64 v)).run Tryd.prog (W.alloc (.map es cl)) = .ok () (W.alloc (.map (es.push ⟨.int .u8 k, .int .i64 v, cl⟩) (cl + 1))) := by
  subst hb
  have hg : (W.alloc (.map es cl)).heap[W.heap.size]? = some (.map es cl) := (Go.MapKept.heap_alloc W _).1
  have hck : (Instr.checkKey false 10000 5 (.int .u8 k)).run Tryd.prog (W.alloc (.map es cl)) = .ok () (W.alloc (.map es cl)) := MapKept.run_checkKey und5 (by simp [MapKept.IsKey]) false 9999
  have hp : (W.heap.push (.map es cl)).setIfInBounds W.heap.size (.map (es.push ⟨.int .u8 k, .int .i64 v, cl⟩) (cl + 1)) = W.heap.push (.map (es.push ⟨.int .u8 k, .int .i64 v, cl⟩) (cl + 1)) := by
    apply Array.ext_getElem?
    intro i
    simp only [Array.getElem?_setIfInBounds, Array.getElem?_push, Array.size_push]
    by_cases h : W.heap.size = i
    · subst h; simp
    · simp [h, Ne.symm h]
  have hset : { W.alloc (.map es cl) with heap := (W.alloc (.map es cl)).heap.setIfInBounds W.heap.size (.map (es.push ⟨.int .u8 k, .int .i64 v, cl⟩) (cl + 1)) } = W.alloc (.map (es.push ⟨.int .u8 k, .int .i64 v, cl⟩) (cl + 1)) := by
    simp only [World.alloc]
    rw [hp]
  rw [← hset]
  generalize hN : (10000 : Nat) = N at hck
  simp [Instr.mapUpdate, run_underlying und164, MapKept.run_getObj_map hg, hN, hck, Instr.findKey, run_underlying und5, hf, MapKept.run_setObj_map _ hg, Result.andThen]
theorem run_ins0 {W : World} {cl b : Nat} {k v : Int} (hb : b = W.heap.size) :
    (Instr.mapUpdate 164 (.map (some b)) (.int .u8 k) (.int .i64 v)).run Tryd.prog (W.alloc (.map #[] cl)) = .ok () (W.alloc (.map #[⟨.int .u8 k, .int .i64 v, cl⟩] (cl + 1))) := run_ins hb rfl
theorem run_ins1 {W : World} {cl b c1 : Nat} {k v k1 : Int} {v1 : Value} (hb : b = W.heap.size) (h1 : ¬ k = k1) :
    (Instr.mapUpdate 164 (.map (some b)) (.int .u8 k) (.int .i64 v)).run Tryd.prog (W.alloc (.map #[⟨.int .u8 k1, v1, c1⟩] cl)) = .ok () (W.alloc (.map #[⟨.int .u8 k1, v1, c1⟩, ⟨.int .u8 k, .int .i64 v, cl⟩] (cl + 1))) := run_ins hb (by have e1 : (k == k1) = false := (by simpa using h1); simp [Instr.findNow, Instr.sameNow, e1])
theorem run_ins2 {W : World} {cl b c1 c2 : Nat} {k v k1 k2 : Int} {v1 v2 : Value} (hb : b = W.heap.size) (h1 : ¬ k = k1) (h2 : ¬ k = k2) :
    (Instr.mapUpdate 164 (.map (some b)) (.int .u8 k) (.int .i64 v)).run Tryd.prog (W.alloc (.map #[⟨.int .u8 k1, v1, c1⟩, ⟨.int .u8 k2, v2, c2⟩] cl)) = .ok () (W.alloc (.map #[⟨.int .u8 k1, v1, c1⟩, ⟨.int .u8 k2, v2, c2⟩, ⟨.int .u8 k, .int .i64 v, cl⟩] (cl + 1))) := run_ins hb (by have e1 : (k == k1) = false := (by simpa using h1); have e2 : (k == k2) = false := (by simpa using h2); simp [Instr.findNow, Instr.sameNow, e1, e2])
theorem run_ins3 {W : World} {cl b c1 c2 c3 : Nat} {k v k1 k2 k3 : Int} {v1 v2 v3 : Value} (hb : b = W.heap.size) (h1 : ¬ k = k1) (h2 : ¬ k = k2) (h3 : ¬ k = k3) :
    (Instr.mapUpdate 164 (.map (some b)) (.int .u8 k) (.int .i64 v)).run Tryd.prog (W.alloc (.map #[⟨.int .u8 k1, v1, c1⟩, ⟨.int .u8 k2, v2, c2⟩, ⟨.int .u8 k3, v3, c3⟩] cl)) = .ok () (W.alloc (.map #[⟨.int .u8 k1, v1, c1⟩, ⟨.int .u8 k2, v2, c2⟩, ⟨.int .u8 k3, v3, c3⟩, ⟨.int .u8 k, .int .i64 v, cl⟩] (cl + 1))) := run_ins hb (by have e1 : (k == k1) = false := (by simpa using h1); have e2 : (k == k2) = false := (by simpa using h2); have e3 : (k == k3) = false := (by simpa using h3); simp [Instr.findNow, Instr.sameNow, e1, e2, e3])

theorem saysQ (E : Ev) (s : ByteArray) (hs : s.size ≤ 200) : ∀ N, SaysQ E s N
  | 0 => ⟨fun w i D h hi hD hN => one114 E s hs 0 w i D (fun h => by omega) h hi hD (by omega), fun row w i D hr h hi hD hN => by omega⟩
  | N + 1 => by
    have ih := saysQ E s hs N
    refine ⟨fun w i D h hi hD hN => one114 E s hs N w i D (fun _ => ih) h hi hD hN, fun row w i D hr h hi hD hN => ?_⟩
    match row, hr with
    | 0, _ => exact read118_0 E s hs N ih w i D h hi hD (by omega)
    | 1, _ => exact read118_1 E s hs N ih w i D h hi hD (by omega)
    | 2, _ => exact read118_2 E s hs N ih w i D h hi hD (by omega)
    | 3, _ => exact read118_3 E s hs N ih w i D h hi hD (by omega)
    | 4, _ => exact read118_4 E s w i D h (fun W hW => ih.one W i D hW hi hD (by omega))
/-- what the program reads the whole text as -/
def PostV (w : World) (p : Nat) (r : PRes) (e : Ending) (w' : World) : Prop := Kept (fun k => k = p) w w' ∧ match r with
  | .ok t _ => ∃ v, e = .returned v ∧ FVS (fun b => w.heap.size ≤ b ∧ b < w'.heap.size) w' v t
  | .err x a => e = faultE x a

theorem hal {W : World} {o o' : Obj} {i : Nat} (h : i < W.heap.size) (e : W.heap[i]? = some o') : (W.alloc o).heap[i]? = some o' := (Below.heap_alloc _ _ _ h).trans e
theorem hnew {W : World} {o : Obj} {i : Nat} (h : i = W.heap.size) : (W.alloc o).heap[i]? = some o := h ▸ (Go.MapKept.heap_alloc W o).1

set_option maxRecDepth 100000 in
set_option maxHeartbeats 4000000 in
theorem whole75 (w : World) (p : Nat) (s : ByteArray) (hs : s.size ≤ 200) (h : Rst w p s 0 0) (hT : TabS w) (h0 : p ≠ 0) :
    Calls Tryd.prog 75 #[.pointer (some ⟨p, 0, none⟩)] w fun e w' => ∃ r, PW s r ∧ PostV w p r e w' := by
  have hmf : ∀ (fn : Fn) (first cap : Array Value) (w : World), (Instr.makeFunc fn first cap).run Tryd.prog w = .ok (.func fn first cap) w := fun _ _ _ _ => rfl
  have hmm := run_makeMap
  have hi0 := @run_ins0
  have hi1 := @run_ins1
  have hi2 := @run_ins2
  have hi3 := @run_ins3
  go_enter Tryd.func75, Tryd.ntmps75
  go_upto_region 5 with fail
  obtain ⟨W5, hW5⟩ : ∃ W5, W5 = (((((((((((w.alloc (.cells #[.pointer (some ⟨p, 0, none⟩)] 71)).alloc (.cells #[.int .i64 0, .int .i64 0, .slice none 0 0] 24)).alloc (.map #[⟨.int .u8 45, .int .i64 6, 0⟩] 1)).alloc (.map #[⟨.int .u8 124, .int .i64 5, 0⟩] 1)).alloc (.map #[⟨.int .u8 38, .int .i64 4, 0⟩] 1)).alloc (.map #[⟨.int .u8 85, .int .i64 8, 0⟩, ⟨.int .u8 82, .int .i64 9, 1⟩] 2)).alloc (.cells #[.map (some (w.heap.size + 1 + 1)), .string ⟨#[62]⟩, .bool true, .map (some (w.heap.size + 1 + 1 + 1)), .string ⟨#[]⟩, .bool false, .map (some (w.heap.size + 1 + 1 + 1 + 1)), .string ⟨#[]⟩, .bool false, .map (some (w.heap.size + 1 + 1 + 1 + 1 + 1)), .string ⟨#[]⟩, .bool true] 167)).alloc (.map #[⟨.int .u8 33, .int .i64 3, 0⟩, ⟨.int .u8 88, .int .i64 7, 1⟩, ⟨.int .u8 70, .int .i64 10, 2⟩, ⟨.int .u8 71, .int .i64 11, 3⟩] 4)).alloc (.cells #[.map (some (w.heap.size + 1 + 1 + 1 + 1 + 1 + 1 + 1))] 164)).alloc (.cells #[.nilFunc] 90)).alloc (.cells #[.nilFunc] 114)) := ⟨_, rfl⟩
  have hz : W5.heap.size = w.heap.size + 1 + 1 + 1 + 1 + 1 + 1 + 1 + 1 + 1 + 1 + 1 := by rw [hW5]; simp
  have k5 : Kept (fun _ => False) w W5 := by rw [hW5]; repeat (first | exact Kept.refl _ _ | apply Kept.alloc)
  rw [← hW5]
  have HS : Hid (W5.heap.size = w.heap.size + 1 + 1 + 1 + 1 + 1 + 1 + 1 + 1 + 1 + 1 + 1) := hz
  have hF : (W5.cell? ⟨w.heap.size, 0, none⟩ = some (.pointer (some ⟨p, 0, none⟩)) ∧ Wb3 W5 (w.heap.size + 1) (.int .i64 0) (.int .i64 0) (.slice none 0 0))
      ∧ (MapB W5 (w.heap.size + 1 + 1) [(45, 6)] ∧ MapB W5 (w.heap.size + 1 + 1 + 1) [(124, 5)] ∧ MapB W5 (w.heap.size + 1 + 1 + 1 + 1) [(38, 4)] ∧ MapB W5 (w.heap.size + 1 + 1 + 1 + 1 + 1) [(85, 8), (82, 9)] ∧ MapB W5 (w.heap.size + 1 + 1 + 1 + 1 + 1 + 1 + 1) [(33, 3), (88, 7), (70, 10), (71, 11)])
      ∧ (∀ i v, (#[Value.map (some (w.heap.size + 1 + 1)), .string ⟨#[62]⟩, .bool true, .map (some (w.heap.size + 1 + 1 + 1)), .string ⟨#[]⟩, .bool false, .map (some (w.heap.size + 1 + 1 + 1 + 1)), .string ⟨#[]⟩, .bool false, .map (some (w.heap.size + 1 + 1 + 1 + 1 + 1)), .string ⟨#[]⟩, .bool true] : Array Value)[i]? = some v → W5.cell? ⟨w.heap.size + 1 + 1 + 1 + 1 + 1 + 1, i, none⟩ = some v)
      ∧ W5.cell? ⟨w.heap.size + 1 + 1 + 1 + 1 + 1 + 1 + 1 + 1, 0, none⟩ = some (.map (some (w.heap.size + 1 + 1 + 1 + 1 + 1 + 1 + 1)))
      ∧ (W5.cell? ⟨w.heap.size + 1 + 1 + 1 + 1 + 1 + 1 + 1 + 1 + 1, 0, none⟩ = some .nilFunc ∧ W5.frozen? ⟨w.heap.size + 1 + 1 + 1 + 1 + 1 + 1 + 1 + 1 + 1, 0, none⟩ = false) ∧ (W5.cell? ⟨w.heap.size + 1 + 1 + 1 + 1 + 1 + 1 + 1 + 1 + 1 + 1, 0, none⟩ = some .nilFunc ∧ W5.frozen? ⟨w.heap.size + 1 + 1 + 1 + 1 + 1 + 1 + 1 + 1 + 1 + 1, 0, none⟩ = false) := by
    rw [hW5]
    refine ⟨⟨by simp [go_sem], ⟨by simp, ⟨by simp [go_sem], by simp [go_sem], by simp [go_sem]⟩, by simp [go_sem], by simp [go_sem], by simp [go_sem]⟩⟩, ⟨⟨#[⟨.int .u8 45, .int .i64 6, 0⟩], 1, by repeat (first | exact hnew (by simp only [World.alloc, Array.size_push]) | refine hal (by simp only [World.alloc, Array.size_push]; omega) ?_), rfl⟩, ⟨#[⟨.int .u8 124, .int .i64 5, 0⟩], 1, by repeat (first | exact hnew (by simp only [World.alloc, Array.size_push]) | refine hal (by simp only [World.alloc, Array.size_push]; omega) ?_), rfl⟩, ⟨#[⟨.int .u8 38, .int .i64 4, 0⟩], 1, by repeat (first | exact hnew (by simp only [World.alloc, Array.size_push]) | refine hal (by simp only [World.alloc, Array.size_push]; omega) ?_), rfl⟩, ⟨#[⟨.int .u8 85, .int .i64 8, 0⟩, ⟨.int .u8 82, .int .i64 9, 1⟩], 2, by repeat (first | exact hnew (by simp only [World.alloc, Array.size_push]) | refine hal (by simp only [World.alloc, Array.size_push]; omega) ?_), rfl⟩, ⟨#[⟨.int .u8 33, .int .i64 3, 0⟩, ⟨.int .u8 88, .int .i64 7, 1⟩, ⟨.int .u8 70, .int .i64 10, 2⟩, ⟨.int .u8 71, .int .i64 11, 3⟩], 4, by repeat (first | exact hnew (by simp only [World.alloc, Array.size_push]) | refine hal (by simp only [World.alloc, Array.size_push]; omega) ?_), rfl⟩⟩, ?_, by simp [go_sem], ⟨by simp [go_sem], by simp [go_sem]⟩, ⟨by simp [go_sem], by simp [go_sem]⟩⟩
    intro i v hv
    refine (cell_of_heap (T := 167) (fr := (0, 0)) ?_ i).trans hv
    repeat (first | exact hnew (by simp only [World.alloc, Array.size_push]) | refine hal (by simp only [World.alloc, Array.size_push]; omega) ?_)
  clear hW5 hz hmm hi0 hi1 hi2 hi3
  obtain ⟨bO, h_bO⟩ : ∃ b, w.heap.size + 1 + 1 + 1 + 1 + 1 + 1 + 1 + 1 + 1 + 1 = b := ⟨_, rfl⟩
  rw [h_bO] at hF HS
  rw [h_bO]
  obtain ⟨bR, h_bR⟩ : ∃ b, w.heap.size + 1 + 1 + 1 + 1 + 1 + 1 + 1 + 1 + 1 = b := ⟨_, rfl⟩
  rw [h_bR] at hF
  rw [h_bR]
  obtain ⟨ba, h_ba⟩ : ∃ b, w.heap.size + 1 + 1 + 1 + 1 + 1 + 1 + 1 + 1 = b := ⟨_, rfl⟩
  rw [h_ba] at hF
  rw [h_ba]
  obtain ⟨ma, h_ma⟩ : ∃ b, w.heap.size + 1 + 1 + 1 + 1 + 1 + 1 + 1 = b := ⟨_, rfl⟩
  rw [h_ma] at hF
  rw [h_ma]
  obtain ⟨bl, h_bl⟩ : ∃ b, w.heap.size + 1 + 1 + 1 + 1 + 1 + 1 = b := ⟨_, rfl⟩
  rw [h_bl] at hF
  rw [h_bl]
  obtain ⟨m3, h_m3⟩ : ∃ b, w.heap.size + 1 + 1 + 1 + 1 + 1 = b := ⟨_, rfl⟩
  rw [h_m3] at hF
  rw [h_m3]
  obtain ⟨m2, h_m2⟩ : ∃ b, w.heap.size + 1 + 1 + 1 + 1 = b := ⟨_, rfl⟩
  rw [h_m2] at hF
  rw [h_m2]
  obtain ⟨m1, h_m1⟩ : ∃ b, w.heap.size + 1 + 1 + 1 = b := ⟨_, rfl⟩
  rw [h_m1] at hF
  rw [h_m1]
  obtain ⟨m0, h_m0⟩ : ∃ b, w.heap.size + 1 + 1 = b := ⟨_, rfl⟩
  rw [h_m0] at hF
  rw [h_m0]
  obtain ⟨rs, h_rs⟩ : ∃ b, w.heap.size + 1 = b := ⟨_, rfl⟩
  rw [h_rs] at hF
  rw [h_rs]
  obtain ⟨br, h_br⟩ : ∃ b, w.heap.size = b := ⟨_, rfl⟩
  rw [h_br] at hF
  rw [h_br]
  have HN : Hid (w.heap.size + 1 + 1 + 1 + 1 + 1 + 1 + 1 + 1 + 1 + 1 = bO ∧ w.heap.size + 1 + 1 + 1 + 1 + 1 + 1 + 1 + 1 + 1 = bR ∧ w.heap.size + 1 + 1 + 1 + 1 + 1 + 1 + 1 + 1 = ba ∧ w.heap.size + 1 + 1 + 1 + 1 + 1 + 1 + 1 = ma ∧ w.heap.size + 1 + 1 + 1 + 1 + 1 + 1 = bl ∧ w.heap.size + 1 + 1 + 1 + 1 + 1 = m3 ∧ w.heap.size + 1 + 1 + 1 + 1 = m2 ∧ w.heap.size + 1 + 1 + 1 = m1 ∧ w.heap.size + 1 + 1 = m0 ∧ w.heap.size + 1 = rs ∧ w.heap.size = br ∧ W5.heap.size = bO + 1 ∧ p < w.heap.size) := ⟨h_bO, h_bR, h_ba, h_ma, h_bl, h_m3, h_m2, h_m1, h_m0, h_rs, h_br, HS.out, h.lt⟩
  have H5 : Hid (Rst W5 p s 0 0 ∧ TabS W5) := ⟨h.kept k5, hT.keptS k5 (fun f => f)⟩
  obtain ⟨⟨hbr, hrs⟩, ⟨g0, g1, g2, g3, ga⟩, hlv, hba, ⟨c9, f9⟩, ⟨c10, f10⟩⟩ := hF
  have HG : Hid (MapB W5 m0 [(45, 6)] ∧ MapB W5 m1 [(124, 5)] ∧ MapB W5 m2 [(38, 4)] ∧ MapB W5 m3 [(85, 8), (82, 9)] ∧ MapB W5 ma [(33, 3), (88, 7), (70, 10), (71, 11)] ∧ Wb3 W5 rs (.int .i64 0) (.int .i64 0) (.slice none 0 0) ∧ (∀ i v, (#[Value.map (some m0), .string ⟨#[62]⟩, .bool true, .map (some m1), .string ⟨#[]⟩, .bool false, .map (some m2), .string ⟨#[]⟩, .bool false, .map (some m3), .string ⟨#[]⟩, .bool true] : Array Value)[i]? = some v → W5.cell? ⟨bl, i, none⟩ = some v) ∧ W5.cell? ⟨ba, 0, none⟩ = some (.map (some ma)) ∧ W5.cell? ⟨br, 0, none⟩ = some (.pointer (some ⟨p, 0, none⟩))) := ⟨g0, g1, g2, g3, ga, hrs, hlv, hba, hbr⟩
  have hs5 : W5.heap.size = bO + 1 := HS.out
  have x1 : ¬ bO = W5.heap.size := by omega
  have x2 : ¬ bR = W5.heap.size := by omega
  have x3 : bO < W5.heap.size := by omega
  have x4 : bR < W5.heap.size := by omega
  have x5 : ¬ bO = bR := by omega
  have x6 : ¬ bR = bO := by omega
  clear hs5 g0 g1 g2 g3 ga hrs hlv hba hbr h hT h_bO h_bR h_ba h_ma h_bl h_m3 h_m2 h_m1 h_m0 h_rs h_br
  go_upto_region 8 with fail
  obtain ⟨W8, hW8⟩ : ∃ W8, W8 = ((W5.setCell ⟨bO, 0, none⟩ (.func (.func 114) #[] #[.pointer (some ⟨br, 0, none⟩), .pointer (some ⟨ba, 0, none⟩), .pointer (some ⟨bO, 0, none⟩), .pointer (some ⟨W5.heap.size, 0, none⟩)])).setCell ⟨bR, 0, none⟩ (.func (.func 118) #[] #[.pointer (some ⟨bO, 0, none⟩), .pointer (some ⟨bl, 0, none⟩), .pointer (some ⟨bR, 0, none⟩), .pointer (some ⟨br, 0, none⟩)])).alloc (.cells #[.func (.func 112) #[] #[.pointer (some ⟨bR, 0, none⟩), .pointer (some ⟨br, 0, none⟩)]] 114) := ⟨_, rfl⟩
  have k58 : Kept (fun k => k = bO ∨ k = bR) W5 W8 := by rw [hW8]; exact (((Kept.refl (fun k => k = bO ∨ k = bR) W5).setCell (p := ⟨bO, 0, none⟩) (fun _ => .inl rfl) _).setCell (p := ⟨bR, 0, none⟩) (fun _ => .inr rfl) _).alloc _
  obtain ⟨n10, n9, n8, n7, n6, n5, n4, n3, n2, n1, n0, n11, npl⟩ := HN.out
  obtain ⟨g0, g1, g2, g3, ga, hrs, hlv, hba, hbr⟩ := HG.out
  have hrs8 : Wb3 W8 rs (.int .i64 0) (.int .i64 0) (.slice none 0 0) := hrs.keptS k58 (by omega)
  have hcl : ∀ {a : Addr} {v : Value}, W5.cell? a = some v → a.block ≠ bO → a.block ≠ bR → W8.cell? a = some v := fun {a v} e h1 h2 => (k58.cell (p := a) (lt_of_cell e) (by omega)).trans e
  have hlc : ∀ i v, (#[Value.map (some m0), .string ⟨#[62]⟩, .bool true, .map (some m1), .string ⟨#[]⟩, .bool false, .map (some m2), .string ⟨#[]⟩, .bool false, .map (some m3), .string ⟨#[]⟩, .bool true] : Array Value)[i]? = some v → W8.cell? ⟨bl, i, none⟩ = some v := fun i v e => hcl (hlv i v e) (by simp only; omega) (by simp only; omega)
  have hRd : Rdy ⟨p, br, bl, ba, bR, bO, W5.heap.size, m0, m1, m2, m3, ma⟩ W8 s 0 0 := by
    refine ⟨⟨H5.out.2.keptS k58 (by omega), hcl hbr (by simp only; omega) (by simp only; omega), ⟨hlc 0 _ rfl, hlc 1 _ rfl, hlc 2 _ rfl⟩, ⟨hlc 3 _ rfl, hlc 4 _ rfl, hlc 5 _ rfl⟩, ⟨hlc 6 _ rfl, hlc 7 _ rfl, hlc 8 _ rfl⟩, ⟨hlc 9 _ rfl, hlc 10 _ rfl, hlc 11 _ rfl⟩, hcl hba (by simp only; omega) (by simp only; omega), ?_, ?_, ?_, g0.keptS k58 (by omega), g1.keptS k58 (by omega), g2.keptS k58 (by omega), g3.keptS k58 (by omega), ga.keptS k58 (by omega)⟩, ?_, H5.out.1.keptS k58 (by omega)⟩
    · rw [hW8]; simp [go_sem, c9, x4]
    · rw [hW8]; simp [go_sem, c10, x3]
    · rw [hW8]; simp [go_sem]
    · simp only [Ev.far]; omega
  have R8 : Hid (Rdy ⟨p, br, bl, ba, bR, bO, W5.heap.size, m0, m1, m2, m3, ma⟩ W8 s 0 0) := hRd
  have k8 : Kept (fun _ => False) w W8 := k5.trans k58 (fun k hk e => by omega)
  have hl8 := k58.size
  rw [← hW8]
  clear hW8 c9 f9 c10 f10 x1 x2 x3 x4 x5 x6 hrs hlv hba hbr hcl hlc hRd g0 g1 g2 g3 ga k58
  have hpr : ¬ rs = p := by omega
  have hrl : w.heap.size ≤ rs := by omega
  have hrl8 : rs < W8.heap.size := by omega
  clear n10 n9 n8 n7 n6 n5 n4 n3 n2 n1 n0 n11 hl8 HG H5 HN
  have eR := R8.out.env.fR
  go_upto_region 9 with (go_at_call 118; refine ((saysQ ⟨p, br, bl, ba, bR, bO, W5.heap.size, m0, m1, m2, m3, ma⟩ s hs (8 * s.size + 5)).read 0 W8 0 0 (by omega) R8.out (by omega) (by omega) (by omega)).mono ?_; rintro e w3 ⟨q, hps, hpost⟩; rcases q with ⟨t, j⟩ | ⟨x, a⟩; rotate_left; (have hk3 := hpost.1; have he : e = faultE x a := hpost.2; rw [faultE] at he; subst he; exact ⟨rfl, .err x a, ⟨_, hps, rfl⟩, (k8.mono (T := fun k => k = p) (fun _ _ f => f.elim)).trans hk3 (fun _ _ e => e), rfl⟩); (obtain ⟨o1, n1, a1, l1, e1, rfl⟩ := hpost.val; have HPS : Hid (PS s (.read 0) 0 0 (.ok t j)) := hps; have HQ : Hid (PostQ W8 p s 0 (.ok t j) (.returned (.agg #[.int .i64 o1, .int .i64 n1, .slice a1 l1 e1])) w3) := hpost; clear hps hpost))
  obtain ⟨w4, hw4⟩ : ∃ w4, w4 = w3.alloc (.cells #[.int .i64 o1, .int .i64 n1, .slice a1 l1 e1] 24) := ⟨_, rfl⟩
  have b4 : Wb3 w4 w3.heap.size (.int .i64 o1) (.int .i64 n1) (.slice a1 l1 e1) := by rw [hw4]; exact Wb3.new _ _ _ _ _
  have HQ4 : Hid (PostQ W8 p s 0 (.ok t j) (.returned (.agg #[.int .i64 o1, .int .i64 n1, .slice a1 l1 e1])) w4) := by rw [hw4]; exact HQ.out.al _
  have h83 := HQ.out.1.size
  rw [← hw4]
  clear hw4 HQ eR
  have R4 : Hid (Rdy ⟨p, br, bl, ba, bR, bO, W5.heap.size, m0, m1, m2, m3, ma⟩ w4 s j 0) := R8.out.on HQ4.out.1 HQ4.out.st
  have hr4 : Wb3 w4 rs (.int .i64 0) (.int .i64 0) (.slice none 0 0) := hrs8.keptS HQ4.out.1 hpr
  have hj : j ≤ s.size := (HPS.out.info (by omega) rfl).2.2.1
  have hp8 : p < W8.heap.size := by have := k8.size; omega
  have hn : ¬ rs = w3.heap.size := by omega
  have hn2 : ¬ w3.heap.size = rs := by omega
  have hn3 : ¬ w3.heap.size = p := by omega
  have er := R4.out.env.r
  obtain ⟨c0, c1, c2, f1, f2⟩ := id R4.out.st
  have hkw : Kept (fun k => k = p) w w4 := (k8.mono (T := fun k => k = p) (fun _ _ f => f.elim)).trans HQ4.out.1 (fun _ _ e => e)
  generalize w3.heap.size = bf at *
  by_cases hlt : j < s.size
  · have hlti : (j : Int) < (s.size : Int) := by omega
    have HW : Hid (PW s (.err 2 j)) := ⟨_, HPS.out, by simp [hlt]⟩
    go_quiet (fail)
    have kq : Kept (fun _ => False) w4 (w4.drewN nq) := (Kept.refl _ _).drewN _
    have R5 : Hid (Rdy ⟨p, br, bl, ba, bR, bO, W5.heap.size, m0, m1, m2, m3, ma⟩ (w4.drewN nq) s j 0) := R4.out.kept kq
    have hk5 : Kept (fun k => k = p) w (w4.drewN nq) := hkw.drewN _
    clear c0 c1 c2 f1 f2 er kq
    generalize w4.drewN nq = w5 at *
    have er := R5.out.env.r
    go_wp2_with (go_at_call 119; refine (fail119 w5 p s j 0 2 R5.out.st).mono ?_; rintro e w6 ⟨he, hx⟩; rw [hx]; rw [faultE] at he; subst he; clear hx)
    exact ⟨rfl, _, HW.out, hk5, rfl⟩
  · have hlti : ¬ (j : Int) < (s.size : Int) := by omega
    have HW : Hid (PW s (.ok t j)) := ⟨_, HPS.out, by simp [hlt]⟩
    go_quiet (fail)
    have kq : Kept (fun _ => False) w4 (w4.drewN nq) := (Kept.refl _ _).drewN _
    have b5 := b4.kept kq
    have hr5 := hr4.kept kq
    have HQ5 : Hid (PostQ W8 p s 0 (.ok t j) (.returned (.agg #[.int .i64 o1, .int .i64 n1, .slice a1 l1 e1])) (w4.drewN nq)) := HQ4.out.on (kq.mono (fun _ _ f => f.elim)) (R4.out.st.kept kq) hp8
    clear c0 c1 c2 f1 f2 er kq
    generalize w4.drewN nq = w5 at *
    obtain ⟨_, ⟨y0, y1, y2⟩, y3, y4, y5⟩ := id hr5
    obtain ⟨_, ⟨x0, x1, x2⟩, _⟩ := id b5
    go_wp2
    refine bodyPost_ret (v := .agg #[.int .i64 o1, .int .i64 n1, .slice a1 l1 e1]) (by simp [results, Tryd.results75, go_sem, y0, y1, y2]) rfl ⟨_, HW.out, ?_⟩
    have h6 := HQ5.out.fin (r := rs) k8 hrl hrl8 npl (.int .i64 o1) (.int .i64 n1) (.slice a1 l1 e1)
    obtain ⟨v', he, _, hf⟩ := h6.2
    exact ⟨h6.1, v', he, hf⟩
end Go.Proofs.YtdbpdanocpfboaaDoor
