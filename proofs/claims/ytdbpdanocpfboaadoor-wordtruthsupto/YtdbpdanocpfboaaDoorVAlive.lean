/- Walks of the law's own helpers: alive. -/
import Derived.Test.YtdbpdanocpfboaaDoorVSame
namespace Go.Proofs.YtdbpdanocpfboaaDoor
open Go.RowKit

theorem short21 : Short [2, 1] [1, 1] 1 1 := by
  refine ⟨⟨by omega, by simp, ?_, fun q h _ _ => h⟩, by simp, ?_, ?_⟩
  · intro i h1 h2
    match i with
    | 0 => omega
    | 1 => rfl
    | n + 2 => simp at h2; omega
  · intro i h1 h2
    match i with
    | 0 => omega
    | 1 => rfl
    | n + 2 => simp at h2; omega
  · right; decide

theorem TabK.kept {w w' : World} (h : TabK w) (hk : Kept (fun _ => False) w w') : TabK w' := fun j hj => (hk.cell (lt_of_cell (h j hj)) (fun f => f)).trans (h j hj)
theorem alive29 (w : World) (B : Nat) (v : Value) (h : WordV B w v [2, 1] [1, 1]) (hB : B ≤ w.heap.size) : Calls Tryd.prog 29 #[v] w fun e w' => Kept (fun _ => False) w w' ∧ e = .returned (.bool true) :=
  (good29 w B v [2, 1] [1, 1] h hB).mono fun _ _ ⟨h1, h2⟩ => ⟨h2, h1⟩
theorem alive31 (w : World) (B : Nat) (v : Value) (h : WordV B w v [2, 1] [1, 1]) (hB : B ≤ w.heap.size) : Calls Tryd.prog 31 #[v, .int .i64 9] w fun e w' => Kept (fun _ => False) w w' ∧ e = .returned (.int .i64 1) :=
  (at31 w B v [2, 1] [1, 1] 9 h hB (by omega)).mono fun _ _ ⟨h1, h2⟩ => ⟨h1, h2⟩
theorem well1 : (Tr.mk 11 0 [.mk 2 0 []]).well := ⟨⟨by omega, by omega, by decide, by omega, by decide⟩, ⟨⟨by omega, by omega, by decide, by omega, by decide⟩, trivial⟩, trivial⟩
theorem well2 : (Tr.mk 7 0 [.mk 11 0 [.mk 2 0 []]]).well := ⟨⟨by omega, by omega, by decide, by omega, by decide⟩, well1, trivial⟩
theorem tv1 : (tvT ([2, 1] ++ [1, 1]) 2 (.mk 7 0 [.mk 11 0 [.mk 2 0 []]])).headD false = true := by rfl
theorem tv2 : (tvT ([2, 1] ++ [1, 1]) 2 (.mk 11 0 [.mk 2 0 []])).headD false = false := by rfl
theorem alive33a (w : World) (B : Nat) (fv v : Value) (h : WordV B w v [2, 1] [1, 1]) (hF : FormV B w fv (.mk 7 0 [.mk 11 0 [.mk 2 0 []]])) (hB : B ≤ w.heap.size) (hT : TabK w) (h2 : 2 ≤ B) : Calls Tryd.prog 33 #[fv, v] w fun e w' => Kept (fun _ => False) w w' ∧ e = .returned (.bool true) :=
  (holds33 w B fv v [2, 1] [1, 1] _ h hF hB hT h2 (by decide)).mono fun _ _ ⟨h1, h2⟩ => ⟨h1, by
    rcases h2 with ⟨h3, _⟩ | ⟨_, _, h3⟩
    · exact absurd ⟨by decide, well2⟩ h3
    · rw [h3]; exact ret_bool tv1⟩
theorem alive33b (w : World) (B : Nat) (fv v : Value) (h : WordV B w v [2, 1] [1, 1]) (hF : FormV B w fv (.mk 11 0 [.mk 2 0 []])) (hB : B ≤ w.heap.size) (hT : TabK w) (h2 : 2 ≤ B) : Calls Tryd.prog 33 #[fv, v] w fun e w' => Kept (fun _ => False) w w' ∧ e = .returned (.bool false) :=
  (holds33 w B fv v [2, 1] [1, 1] _ h hF hB hT h2 (by decide)).mono fun _ _ ⟨h1, h2⟩ => ⟨h1, by
    rcases h2 with ⟨h3, _⟩ | ⟨_, _, h3⟩
    · exact absurd ⟨by decide, well1⟩ h3
    · rw [h3]; exact ret_bool tv2⟩

set_option maxRecDepth 100000 in
set_option maxHeartbeats 1000000 in
theorem alive36 (w : World) (hT : TabK w) (h2 : 2 ≤ w.heap.size) :
    Calls Tryd.prog 36 #[] w fun e w' => Kept (fun _ => False) w w' ∧ e = .returned (.bool true) := by
  obtain ⟨w1, hw1⟩ : ∃ w1, w1 = ((w.alloc (.cells #[.int .i64 2, .int .i64 1] 3)).alloc (.cells #[.int .i64 1, .int .i64 1] 3)).alloc (.cells #[.slice (some ⟨w.heap.size, 0, none⟩) 2 2, .slice (some ⟨w.heap.size + 1, 0, none⟩) 2 2] 49) := ⟨_, rfl⟩
  have hk1 : Kept (fun _ => False) w w1 := by rw [hw1]; exact (((Kept.refl _ _).alloc _).alloc _).alloc _
  have i0 : w1.cell? ⟨w.heap.size, 0, none⟩ = some (.int .i64 2) := by rw [hw1]; simp [go_sem]
  have i1 : w1.cell? ⟨w.heap.size, 1, none⟩ = some (.int .i64 1) := by rw [hw1]; simp [go_sem]
  have j0 : w1.cell? ⟨w.heap.size + 1, 0, none⟩ = some (.int .i64 1) := by rw [hw1, World.cell?_alloc_past (hn := by simp), World.cell?_alloc_at (hn := by simp)]; rfl
  have j1 : w1.cell? ⟨w.heap.size + 1, 1, none⟩ = some (.int .i64 1) := by rw [hw1, World.cell?_alloc_past (hn := by simp), World.cell?_alloc_at (hn := by simp)]; rfl
  have u0 : w1.cell? ⟨w.heap.size + 1 + 1, 0, none⟩ = some (.slice (some ⟨w.heap.size, 0, none⟩) 2 2) := by rw [hw1, World.cell?_alloc_at (hn := by simp)]; rfl
  have u1 : w1.cell? ⟨w.heap.size + 1 + 1, 1, none⟩ = some (.slice (some ⟨w.heap.size + 1, 0, none⟩) 2 2) := by rw [hw1, World.cell?_alloc_at (hn := by simp)]; rfl
  have hl1 : w.heap.size + 1 + 1 < w1.heap.size := lt_of_cell u0
  have HW1 : Hid (WordV (w.heap.size + 2) w1 (.agg #[.slice (some ⟨w.heap.size, 0, none⟩) 2 2, .slice (some ⟨w.heap.size + 1, 0, none⟩) 2 2]) [2, 1] [1, 1]) := by
    refine ⟨_, _, rfl, ⟨_, 2, rfl, by simp, by simp, fun i x hx => ⟨w.heap.size, 0, rfl, by omega, ?_⟩⟩, ⟨_, 2, rfl, by simp, by simp, fun i x hx => ⟨w.heap.size + 1, 0, rfl, by omega, ?_⟩⟩⟩
    · match i with
      | 0 => simp at hx; subst hx; exact i0
      | 1 => simp at hx; subst hx; exact i1
      | n + 2 => simp at hx
    · match i with
      | 0 => simp at hx; subst hx; exact j0
      | 1 => simp at hx; subst hx; exact j1
      | n + 2 => simp at hx
  have hg21 : goodW [2, 1] [1, 1] = true := by decide
  go_enter Tryd.func36, Tryd.ntmps36
  go_upto_region 2 with fail
  rw [← hw1]
  clear hw1 i0 i1 j0 j1
  go_upto_region 3 with (go_at_call 37; refine (least37' _ (w.heap.size + 2) _ [2, 1] [1, 1] HW1.out (by omega) hg21).mono ?_; rintro e w2 ⟨t, rfl, hk2, hl2⟩; obtain ⟨a1, n1, c1, a2, n2, c2, rfl⟩ := hl2.form)
  have hn : n1 = 1 ∧ n2 = 1 := by
    obtain ⟨h, P, hS, _, _, e, g1, g2⟩ := hl2
    simp only [Value.agg.injEq, Array.mk.injEq, List.cons.injEq, and_true] at e
    obtain ⟨rfl, rfl⟩ := e
    obtain ⟨rfl, rfl⟩ := hS.inj short21 (by simp)
    obtain ⟨_, _, e1, _⟩ := g1
    obtain ⟨_, _, e2, _⟩ := g2
    cases e1
    cases e2
    exact ⟨rfl, rfl⟩
  obtain ⟨rfl, rfl⟩ := hn
  clear hl2
  go_upto_region 4 with fail
  obtain ⟨W4, hW4⟩ : ∃ W4, W4 = (((w2.alloc (.cells #[.slice a1 1 c1, .slice a2 1 c2] 49)).alloc (.cells #[.int .i64 2, .int .i64 0, .slice none 0 0] 24)).alloc (.cells #[.int .i64 11, .int .i64 0, .slice (some ⟨w2.heap.size + 1, 0, none⟩) 1 1] 24)).alloc (.cells #[.int .i64 7, .int .i64 0, .slice (some ⟨w2.heap.size + 1 + 1, 0, none⟩) 1 1] 24) := ⟨_, rfl⟩
  have hk4 : Kept (fun _ => False) w2 W4 := by rw [hW4]; exact ((((Kept.refl _ _).alloc _).alloc _).alloc _).alloc _
  have l0 : W4.cell? ⟨w2.heap.size, 0, none⟩ = some (.slice a1 1 c1) := by rw [hW4, World.cell?_alloc_past (hn := by first | (simp; done) | (simp; omega)), World.cell?_alloc_past (hn := by first | (simp; done) | (simp; omega)), World.cell?_alloc_past (hn := by first | (simp; done) | (simp; omega)), World.cell?_alloc_at (hn := by first | (simp; done) | (simp; omega))]; rfl
  have l1 : W4.cell? ⟨w2.heap.size, 1, none⟩ = some (.slice a2 1 c2) := by rw [hW4, World.cell?_alloc_past (hn := by first | (simp; done) | (simp; omega)), World.cell?_alloc_past (hn := by first | (simp; done) | (simp; omega)), World.cell?_alloc_past (hn := by first | (simp; done) | (simp; omega)), World.cell?_alloc_at (hn := by first | (simp; done) | (simp; omega))]; rfl
  have p0 : W4.cell? ⟨w2.heap.size + 1, 0, none⟩ = some (.int .i64 2) := by rw [hW4, World.cell?_alloc_past (hn := by first | (simp; done) | (simp; omega)), World.cell?_alloc_past (hn := by first | (simp; done) | (simp; omega)), World.cell?_alloc_at (hn := by first | (simp; done) | (simp; omega))]; rfl
  have p1 : W4.cell? ⟨w2.heap.size + 1, 1, none⟩ = some (.int .i64 0) := by rw [hW4, World.cell?_alloc_past (hn := by first | (simp; done) | (simp; omega)), World.cell?_alloc_past (hn := by first | (simp; done) | (simp; omega)), World.cell?_alloc_at (hn := by first | (simp; done) | (simp; omega))]; rfl
  have p2 : W4.cell? ⟨w2.heap.size + 1, 2, none⟩ = some (.slice none 0 0) := by rw [hW4, World.cell?_alloc_past (hn := by first | (simp; done) | (simp; omega)), World.cell?_alloc_past (hn := by first | (simp; done) | (simp; omega)), World.cell?_alloc_at (hn := by first | (simp; done) | (simp; omega))]; rfl
  have g0 : W4.cell? ⟨w2.heap.size + 1 + 1, 0, none⟩ = some (.int .i64 11) := by rw [hW4, World.cell?_alloc_past (hn := by first | (simp; done) | (simp; omega)), World.cell?_alloc_at (hn := by first | (simp; done) | (simp; omega))]; rfl
  have g1 : W4.cell? ⟨w2.heap.size + 1 + 1, 1, none⟩ = some (.int .i64 0) := by rw [hW4, World.cell?_alloc_past (hn := by first | (simp; done) | (simp; omega)), World.cell?_alloc_at (hn := by first | (simp; done) | (simp; omega))]; rfl
  have g2 : W4.cell? ⟨w2.heap.size + 1 + 1, 2, none⟩ = some (.slice (some ⟨w2.heap.size + 1, 0, none⟩) 1 1) := by rw [hW4, World.cell?_alloc_past (hn := by first | (simp; done) | (simp; omega)), World.cell?_alloc_at (hn := by first | (simp; done) | (simp; omega))]; rfl
  have f0 : W4.cell? ⟨w2.heap.size + 1 + 1 + 1, 0, none⟩ = some (.int .i64 7) := by rw [hW4, World.cell?_alloc_at (hn := by first | (simp; done) | (simp; omega))]; rfl
  have f1 : W4.cell? ⟨w2.heap.size + 1 + 1 + 1, 1, none⟩ = some (.int .i64 0) := by rw [hW4, World.cell?_alloc_at (hn := by first | (simp; done) | (simp; omega))]; rfl
  have f2 : W4.cell? ⟨w2.heap.size + 1 + 1 + 1, 2, none⟩ = some (.slice (some ⟨w2.heap.size + 1 + 1, 0, none⟩) 1 1) := by rw [hW4, World.cell?_alloc_at (hn := by first | (simp; done) | (simp; omega))]; rfl
  have B1 : PlainB W4 (w2.heap.size + 1) := ⟨_, 24, by rw [hW4]; exact ((((Kept.refl (fun _ => False) _).alloc _).alloc _).block _ (by first | (simp; done) | (simp; omega)) (fun f => f)).trans (by simpa using (MapKept.heap_alloc (w2.alloc (.cells #[.slice a1 1 c1, .slice a2 1 c2] 49)) (.cells #[.int .i64 2, .int .i64 0, .slice none 0 0] 24)).1)⟩
  have B2 : PlainB W4 (w2.heap.size + 1 + 1) := ⟨_, 24, by rw [hW4]; exact (((Kept.refl (fun _ => False) _).alloc _).block _ (by first | (simp; done) | (simp; omega)) (fun f => f)).trans (by simpa using (MapKept.heap_alloc ((w2.alloc (.cells #[.slice a1 1 c1, .slice a2 1 c2] 49)).alloc (.cells #[.int .i64 2, .int .i64 0, .slice none 0 0] 24)) (.cells #[.int .i64 11, .int .i64 0, .slice (some ⟨w2.heap.size + 1, 0, none⟩) 1 1] 24)).1)⟩
  rw [← hW4]
  clear hW4
  have FA : FormsAt W4.heap.size W4 (w2.heap.size + 1) 0 [.mk 2 0 []] := ⟨⟨lt_of_cell p0, B1, p0, p1, none, 0, 0, 0, p2, by simp, trivial⟩, trivial⟩
  have FB : FormsAt W4.heap.size W4 (w2.heap.size + 1 + 1) 0 [.mk 11 0 [.mk 2 0 []]] := ⟨⟨lt_of_cell g0, B2, g0, g1, _, w2.heap.size + 1, 0, 1, g2, fun _ => rfl, FA⟩, trivial⟩
  have F1 : Hid (FormV W4.heap.size W4 (.agg #[.int .i64 7, .int .i64 0, .slice (some ⟨w2.heap.size + 1 + 1, 0, none⟩) 1 1]) (.mk 7 0 [.mk 11 0 [.mk 2 0 []]])) := ⟨_, w2.heap.size + 1 + 1, 0, 1, rfl, fun _ => rfl, FB⟩
  have F2 : Hid (FormV W4.heap.size W4 (.agg #[.int .i64 11, .int .i64 0, .slice (some ⟨w2.heap.size + 1, 0, none⟩) 1 1]) (.mk 11 0 [.mk 2 0 []])) := ⟨_, w2.heap.size + 1, 0, 1, rfl, fun _ => rfl, FA⟩
  have hk14 := hk2.trans hk4 (fun _ _ f => f)
  have v0 := (hk14.cell (lt_of_cell u0) (fun f => f)).trans u0
  have v1 := (hk14.cell (lt_of_cell u1) (fun f => f)).trans u1
  have hs4 : w.heap.size + 2 ≤ W4.heap.size := Nat.le_trans (by omega) hk14.size
  have HW4 : Hid (WordV W4.heap.size W4 (.agg #[.slice (some ⟨w.heap.size, 0, none⟩) 2 2, .slice (some ⟨w.heap.size + 1, 0, none⟩) 2 2]) [2, 1] [1, 1]) := (HW1.out.kept hk14 (by omega)).mono hs4
  have hkw := hk1.trans hk14 (fun _ _ f => f)
  have HT4 : Hid (TabK W4) := fun j hj => (hkw.cell (lt_of_cell (hT j hj)) (fun f => f)).trans (hT j hj)
  have h24 : 2 ≤ W4.heap.size := by omega
  have Ul0 : ∀ U : KW W4, U.1.cell? ⟨w2.heap.size, 0, none⟩ = some (.slice a1 1 c1) := fun U => U.cell l0
  have Ul1 : ∀ U : KW W4, U.1.cell? ⟨w2.heap.size, 1, none⟩ = some (.slice a2 1 c2) := fun U => U.cell l1
  have Ug0 : ∀ U : KW W4, U.1.cell? ⟨w2.heap.size + 1 + 1, 0, none⟩ = some (.int .i64 11) := fun U => U.cell g0
  have Ug1 : ∀ U : KW W4, U.1.cell? ⟨w2.heap.size + 1 + 1, 1, none⟩ = some (.int .i64 0) := fun U => U.cell g1
  have Ug2 : ∀ U : KW W4, U.1.cell? ⟨w2.heap.size + 1 + 1, 2, none⟩ = some (.slice (some ⟨w2.heap.size + 1, 0, none⟩) 1 1) := fun U => U.cell g2
  have Uf0 : ∀ U : KW W4, U.1.cell? ⟨w2.heap.size + 1 + 1 + 1, 0, none⟩ = some (.int .i64 7) := fun U => U.cell f0
  have Uf1 : ∀ U : KW W4, U.1.cell? ⟨w2.heap.size + 1 + 1 + 1, 1, none⟩ = some (.int .i64 0) := fun U => U.cell f1
  have Uf2 : ∀ U : KW W4, U.1.cell? ⟨w2.heap.size + 1 + 1 + 1, 2, none⟩ = some (.slice (some ⟨w2.heap.size + 1 + 1, 0, none⟩) 1 1) := fun U => U.cell f2
  have Uv0 : ∀ U : KW W4, U.1.cell? ⟨w.heap.size + 1 + 1, 0, none⟩ = some (.slice (some ⟨w.heap.size, 0, none⟩) 2 2) := fun U => U.cell v0
  have Uv1 : ∀ U : KW W4, U.1.cell? ⟨w.heap.size + 1 + 1, 1, none⟩ = some (.slice (some ⟨w.heap.size + 1, 0, none⟩) 2 2) := fun U => U.cell v1
  clear FA FB B1 B2 l0 l1 p0 p1 p2 g0 g1 g2 f0 f1 f2 u0 u1 v0 v1 hT hk1 hk2 hk4 hk14 HW1
  refine wp_region_quiet_kept (by kernel_rfl) (by kernel_rfl) ?_
  repeat (refine wpQuiet_step (fun K hK => ?_); go_simp; first | (refine hK _ ?_; clear hK K) | (apply Exists.intro; refine ⟨fun U => ?_, hK _ ?_⟩; (first
    | (go_at_call 29; exact Calls.quiet_kept (alive29 _ _ _ (HW4.out.kept U.2 (Nat.le_refl _)) U.2.size))
    | (go_at_call 31; exact Calls.quiet_kept (alive31 _ _ _ (HW4.out.kept U.2 (Nat.le_refl _)) U.2.size))
    | (go_at_call_of 33 (Value.int IntKind.i64 7); exact Calls.quiet_kept (alive33a _ _ _ _ (HW4.out.kept U.2 (Nat.le_refl _)) (F1.out.below (U.2.below (Nat.le_refl _) (fun _ f => f.elim))) U.2.size (HT4.out.kept U.2) h24))
    | (go_at_call_of 33 (Value.int IntKind.i64 11); exact Calls.quiet_kept (alive33b _ _ _ _ (HW4.out.kept U.2 (Nat.le_refl _)) (F2.out.below (U.2.below (Nat.le_refl _) (fun _ f => f.elim))) U.2.size (HT4.out.kept U.2) h24))); clear hK K))
  refine wpQuiet_nil ?_
  intro w5 hw'
  have k5 : Kept (fun _ => False) W4 w5 := by
    obtain ⟨U, rfl⟩ := hw'
    exact U.2
  clear hw'
  go_wp2
  go_ret
  exact ⟨hkw.trans k5 (fun _ _ f => f), rfl⟩
end Go.Proofs.YtdbpdanocpfboaaDoor
