import Derived.Test.YtdbpdanocpfboabGreatDoorZRz
import Derived.Test.YtdbpdanocpfboabGreatDoorZMg
import Derived.Test.YtdbpdanocpfboabGreatDoorZBun05
/- The law's alive: a plain model. -/
namespace Go.Proofs.YtdbpdanocpfboabGreatDoor
open Go.RowKit

def txA : ByteArray := ⟨#[115, 32, 97, 98, 32, 62, 32, 116, 32, 115, 10, 116, 32, 45, 32, 62, 32, 115, 10]⟩
def mdA : MD := ⟨[⟨#[115]⟩, ⟨#[116]⟩], [3, 0], [[1, 0], [0]]⟩
theorem txA_eq : textM mdA = txA := by decide +kernel
theorem fitsA : FitsP mdA := (fitsB_iff _).1 (by decide +kernel)
theorem goodA : goodM mdA = true := by decide +kernel
theorem parseA : parseM txA = .ok mdA := by rw [← txA_eq]; exact parse_text fitsA (by decide +kernel)
theorem printA : printM mdA = txA := by rw [printM, if_pos goodA, txA_eq]
theorem pathA : pathM mdA [0] [1, 0] = true := by decide +kernel
theorem traceHA : traceH mdA [0] [1, 0] = [3] := by rw [traceH, if_pos pathA]; rfl
theorem traceLA : traceL mdA [0] [1, 0] = [0, 3] := by rw [traceL, if_pos pathA]; rfl
theorem sizesA : ∀ x ∈ mdA.names, x.size ≤ 9223372036854775807 := by decide +kernel
theorem ModT.modV {lo : Nat} {w : World} {v : Value} {m : MD} (h : ModT lo w v m) : ModV w.heap.size w v m := h.modN.modV
theorem ModV.new {w w' : World} {v : Value} {m : MD} {B : Nat} (h : ModV B w v m) (hB : B ≤ w.heap.size) (hk : Kept (fun _ => False) w w') : ModV B w' v m := h.kept hk hB

theorem ModV.form {B : Nat} {w : World} {v : Value} {m : MD} (h : ModV B w v m) : ∃ na nc la lc ta tc, v = .agg #[.slice na m.names.length nc, .slice la m.letters.length lc, .slice ta m.tos.length tc] := by
  obtain ⟨nv, lv, tv, rfl, h1, h2, rs, h3, h4, _⟩ := h.ex
  obtain ⟨na, nc, rfl, _⟩ := h1.form
  obtain ⟨la, lc, rfl, _⟩ := h2.form
  obtain ⟨ta, tc, rfl, _⟩ := h4.form
  rw [h3]
  exact ⟨_, _, _, _, _, _, rfl⟩
theorem WordV.form {B : Nat} {w : World} {v : Value} {hd lp : List Int} (h : WordV B w v hd lp) : ∃ a c a' c', v = .agg #[.slice a hd.length c, .slice a' lp.length c'] := by
  obtain ⟨hv, lv, rfl, h1, h2⟩ := h
  obtain ⟨a, c, rfl, _⟩ := h1.form
  obtain ⟨a', c', rfl, _⟩ := h2.form
  exact ⟨_, _, _, _, rfl⟩

theorem ints_blk {W : World} {b B : Nat} {xs : List Int} {t : TypeId} {f : Nat × Nat} (h : W.heap[b]? = some (.cells (xs.map (Value.int .i64)).toArray t f)) (hb : b < B) (hl : xs.length ≤ 17592186044416) : IntsV B W (.slice (some ⟨b, 0, none⟩) xs.length xs.length) xs :=
  ⟨_, _, rfl, Nat.le_refl _, hl, fun i x hx => ⟨b, 0, rfl, hb, by rw [Nat.zero_add, blk_cell h]; simp [hx]⟩⟩

set_option maxRecDepth 100000 in
set_option maxHeartbeats 8000000 in
theorem alive13 (w : World) (mx : Int) (hmx : w.cell? ⟨0, 0, none⟩ = some (.int .i64 mx)) : Calls Tryz.prog 13 #[] w fun e w' => Kept (fun _ => False) w w' ∧ e = .returned (.bool true) := by
  have C1 := parse6 w txA mx hmx
  rw [parseA, txA] at C1
  go_enter Tryz.func13, Tryz.ntmps13
  go_upto_region 3 with (go_at_call 6; refine C1.mono ?_; rintro e w1 ⟨k1, v, rfl, hm1⟩; obtain ⟨na, nc, la, lc, ta, tc, rfl⟩ := hm1.modV.form)
  obtain ⟨W2, hW2⟩ : ∃ W2, W2 = (((w1.alloc (.cells #[.slice na mdA.names.length nc, .slice la mdA.letters.length lc, .slice ta mdA.tos.length tc] 26)).alloc (.cells #[.int .i64 0] 3)).alloc (.cells #[.int .i64 1, .int .i64 0] 3)).alloc (.cells #[.slice (some ⟨w1.heap.size + 1, 0, none⟩) 1 1, .slice (some ⟨w1.heap.size + 1 + 1, 0, none⟩) 2 2] 43) := ⟨_, rfl⟩
  have k2 : Kept (fun _ => False) w1 W2 := by rw [hW2]; exact ((((Kept.refl _ _).alloc _).alloc _).alloc _).alloc _
  have b0 : W2.heap[w1.heap.size]? = some (.cells #[.slice na mdA.names.length nc, .slice la mdA.letters.length lc, .slice ta mdA.tos.length tc] 26 (0, 0)) := by
    rw [hW2]
    exact (Below.heap_alloc _ _ _ (by simp; omega)).trans ((Below.heap_alloc _ _ _ (by simp; omega)).trans ((Below.heap_alloc _ _ _ (by simp)).trans (alloc_blk _ _)))
  have b1 : W2.heap[w1.heap.size + 1]? = some (.cells #[.int .i64 0] 3 (0, 0)) := by
    rw [hW2]
    have := alloc_blk (w1.alloc (.cells #[.slice na mdA.names.length nc, .slice la mdA.letters.length lc, .slice ta mdA.tos.length tc] 26)) (.cells #[.int .i64 0] 3)
    exact (Below.heap_alloc _ _ _ (by simp)).trans ((Below.heap_alloc _ _ _ (by simp)).trans (by simpa using this))
  have b2 : W2.heap[w1.heap.size + 1 + 1]? = some (.cells #[.int .i64 1, .int .i64 0] 3 (0, 0)) := by
    rw [hW2]
    have := alloc_blk ((w1.alloc (.cells #[.slice na mdA.names.length nc, .slice la mdA.letters.length lc, .slice ta mdA.tos.length tc] 26)).alloc (.cells #[.int .i64 0] 3)) (.cells #[.int .i64 1, .int .i64 0] 3)
    exact (Below.heap_alloc _ _ _ (by simp)).trans (by simpa using this)
  have b3 : W2.heap[w1.heap.size + 1 + 1 + 1]? = some (.cells #[.slice (some ⟨w1.heap.size + 1, 0, none⟩) 1 1, .slice (some ⟨w1.heap.size + 1 + 1, 0, none⟩) 2 2] 43 (0, 0)) := by
    rw [hW2]
    have := alloc_blk (((w1.alloc (.cells #[.slice na mdA.names.length nc, .slice la mdA.letters.length lc, .slice ta mdA.tos.length tc] 26)).alloc (.cells #[.int .i64 0] 3)).alloc (.cells #[.int .i64 1, .int .i64 0] 3)) (.cells #[.slice (some ⟨w1.heap.size + 1, 0, none⟩) 1 1, .slice (some ⟨w1.heap.size + 1 + 1, 0, none⟩) 2 2] 43)
    simpa using this
  have hz2 : w1.heap.size + 1 + 1 + 1 < W2.heap.size := (Array.getElem?_eq_some_iff.1 b3).1
  have HW : Hid (∀ W, Kept (fun _ => False) W2 W → ModV W2.heap.size W (.agg #[.slice na mdA.names.length nc, .slice la mdA.letters.length lc, .slice ta mdA.tos.length tc]) mdA ∧ WordV W2.heap.size W (.agg #[.slice (some ⟨w1.heap.size + 1, 0, none⟩) 1 1, .slice (some ⟨w1.heap.size + 1 + 1, 0, none⟩) 2 2]) [0] [1, 0] ∧ W2.heap.size ≤ W.heap.size) := fun W hk =>
    ⟨((hm1.modN.keep k2.size (fun k _ h => k2.block k h (fun f => f))).modV).kept hk (Nat.le_refl _), WordV.below ⟨_, _, rfl, ints_blk (xs := [0]) b1 (by omega) (by decide), ints_blk (xs := [1, 0]) b2 (by omega) (by decide)⟩ (hk.below (Nat.le_refl _) (fun _ f => f.elim)), hk.size⟩
  have HX : Hid (∀ W, Kept (fun _ => False) W2 W → W.cell? ⟨w1.heap.size, 0, none⟩ = some (.slice na mdA.names.length nc) ∧ W.cell? ⟨w1.heap.size, 1, none⟩ = some (.slice la mdA.letters.length lc) ∧ W.cell? ⟨w1.heap.size, 2, none⟩ = some (.slice ta mdA.tos.length tc) ∧ W.cell? ⟨w1.heap.size + 1 + 1 + 1, 0, none⟩ = some (.slice (some ⟨w1.heap.size + 1, 0, none⟩) 1 1) ∧ W.cell? ⟨w1.heap.size + 1 + 1 + 1, 1, none⟩ = some (.slice (some ⟨w1.heap.size + 1 + 1, 0, none⟩) 2 2)) := fun W hk =>
    ⟨(hk.cell (p := ⟨w1.heap.size, 0, none⟩) (lt_of_cell (blk_cell b0 0)) (fun f => f)).trans (blk_cell b0 0), (hk.cell (p := ⟨w1.heap.size, 1, none⟩) (lt_of_cell (blk_cell b0 1)) (fun f => f)).trans (blk_cell b0 1), (hk.cell (p := ⟨w1.heap.size, 2, none⟩) (lt_of_cell (blk_cell b0 2)) (fun f => f)).trans (blk_cell b0 2), (hk.cell (p := ⟨w1.heap.size + 1 + 1 + 1, 0, none⟩) (lt_of_cell (blk_cell b3 0)) (fun f => f)).trans (blk_cell b3 0), (hk.cell (p := ⟨w1.heap.size + 1 + 1 + 1, 1, none⟩) (lt_of_cell (blk_cell b3 1)) (fun f => f)).trans (blk_cell b3 1)⟩
  have HK2 : Hid (Kept (fun _ => False) w W2) := k1.trans k2 (fun _ _ f => f)
  rw [← hW2]
  obtain ⟨x0, x1, x2, y0, y1⟩ := HX.out W2 (Kept.refl _ _)
  have C2 := trace16 W2 W2.heap.size _ _ mdA [0] [1, 0] (HW.out W2 (Kept.refl _ _)).1 (HW.out W2 (Kept.refl _ _)).2.1 (Nat.le_refl _) sizesA
  rw [traceHA, traceLA] at C2
  clear C1 hm1 k1 k2 b0 b1 b2 b3 hW2 hmx
  go_upto_region 4 with (go_at_call 16; refine C2.mono ?_; rintro e w3 ⟨k3, u, rfl, hu⟩; obtain ⟨ha, hc, la', lc', rfl⟩ := hu.wordN.wordV.form)
  obtain ⟨W4, hW4⟩ : ∃ W4, W4 = w3.alloc (.cells #[.slice ha 1 hc, .slice la' 2 lc'] 43) := ⟨_, rfl⟩
  have k4 : Kept (fun _ => False) w3 W4 := by rw [hW4]; exact (Kept.refl _ _).alloc _
  have b4 : W4.heap[w3.heap.size]? = some (.cells #[.slice ha 1 hc, .slice la' 2 lc'] 43 (0, 0)) := by rw [hW4]; exact alloc_blk _ _
  obtain ⟨hv, lv, e, _, hl⟩ := hu
  injection e with e
  injection e with e
  injection e with e1 e
  injection e with e2 _
  subst e1 e2
  obtain ⟨lb, lo, rfl, hin, hcell⟩ := LsS.cell hl (i := 1) (x := .int .i64 3) rfl
  have K24 : Kept (fun _ => False) W2 W4 := k3.trans k4 (fun _ _ f => f)
  have HY : Hid (∀ W, Kept (fun _ => False) W4 W → W.cell? ⟨w3.heap.size, 1, none⟩ = some (.slice (some ⟨lb, lo, none⟩) 2 lc') ∧ W.cell? ⟨lb, lo + 1, none⟩ = some (.int .i64 3)) := fun W hk =>
    ⟨(hk.cell (p := ⟨w3.heap.size, 1, none⟩) (lt_of_cell (blk_cell b4 1)) (fun f => f)).trans (blk_cell b4 1), ((k4.trans hk (fun _ _ f => f)).cell (p := ⟨lb, lo + 1, none⟩) hin.2.1 (fun f => f)).trans hcell⟩
  have HXX : Hid (∀ W, Kept (fun _ => False) W4 W → Kept (fun _ => False) W2 W) := fun W hk => K24.trans hk (fun _ _ f => f)
  have HKE : Hid (∀ W, Kept (fun _ => False) W4 W → Kept (fun _ => False) w W) := fun W hk => HK2.out.trans (K24.trans hk (fun _ _ f => f)) (fun _ _ f => f)
  rw [← hW4]
  clear x0 x1 x2 y0 y1 C2 k3 k4 b4 hl hin hcell hW4 K24 hz2
  obtain ⟨x0, x1, x2, y0, y1⟩ := HX.out W4 (HXX.out W4 (Kept.refl _ _))
  obtain ⟨u1, u2⟩ := HY.out W4 (Kept.refl _ _)
  have HT : Hid (txA = ⟨#[115, 32, 97, 98, 32, 62, 32, 116, 32, 115, 10, 116, 32, 45, 32, 62, 32, 115, 10]⟩) := rfl
  go_wp2_with (first
    | (go_at_call 9; refine (num9 W4 0).mono ?_; rintro e w5 ⟨rfl, hx⟩; rw [hx]; clear hx)
    | (go_at_call 10; refine (good10 W4 W2.heap.size _ mdA (HW.out W4 (HXX.out W4 (Kept.refl _ _))).1 (HW.out W4 (HXX.out W4 (Kept.refl _ _))).2.2 sizesA).mono ?_; rw [goodA]; rintro e w5 ⟨k5, rfl⟩; clear x0 x1 x2 y0 y1 u1 u2; obtain ⟨x0, x1, x2, y0, y1⟩ := HX.out w5 (HXX.out w5 k5); obtain ⟨u1, u2⟩ := HY.out w5 k5)
    | (go_at_call 20; refine (path20 w5 W2.heap.size _ _ mdA [0] [1, 0] (HW.out w5 (HXX.out w5 k5)).1 (HW.out w5 (HXX.out w5 k5)).2.1 (HW.out w5 (HXX.out w5 k5)).2.2 sizesA).mono ?_; rw [pathA]; rintro e w6 ⟨k6, rfl⟩; have K6 := k5.trans k6 (fun _ _ f => f); clear x0 x1 x2 y0 y1 u1 u2; obtain ⟨x0, x1, x2, y0, y1⟩ := HX.out w6 (HXX.out w6 K6); obtain ⟨u1, u2⟩ := HY.out w6 K6)
    | (go_at_call 11; refine (print11 w6 W2.heap.size _ mdA (HW.out w6 (HXX.out w6 K6)).1 (HW.out w6 (HXX.out w6 K6)).2.2 sizesA).mono ?_; rw [printA, HT.out]; rintro e w7 ⟨k7, rfl⟩; have K7 := K6.trans k7 (fun _ _ f => f)))
  go_ret
  exact ⟨HKE.out w7 K7, rfl⟩
end Go.Proofs.YtdbpdanocpfboabGreatDoor
