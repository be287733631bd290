import Derived.Test.YtdbpdanocpfboaaDoorZBun11
import Derived.Deep.LoopGhost
/- The law's spoil: what was answered is overwritten. -/
namespace Go.Proofs.YtdbpdanocpfboaaDoor
open Go.RowKit

/-- a Form's three cells lie here -/
def Pos (W : World) (b o : Nat) : Prop := ∃ x y s l c, W.cell? ⟨b, o, none⟩ = some (.int .i64 x) ∧ W.cell? ⟨b, o + 1, none⟩ = some (.int .i64 y) ∧ W.cell? ⟨b, o + 2, none⟩ = some (.slice s l c)
theorem Pos.apart {W : World} {b o o' : Nat} (h : Pos W b o) (h' : Pos W b o') (hne : o ≠ o') : o + 2 < o' ∨ o' + 2 < o := by
  obtain ⟨x, y, s, l, c, h0, h1, h2⟩ := h
  obtain ⟨x', y', s', l', c', g0, g1, g2⟩ := h'
  rcases Nat.lt_or_ge (o + 2) o' with h | h
  · exact .inl h
  rcases Nat.lt_or_ge (o' + 2) o with h' | h'
  · exact .inr h'
  exfalso
  have hc : o' = o + 1 ∨ o' = o + 2 ∨ o = o' + 1 ∨ o = o' + 2 := by omega
  rcases hc with rfl | rfl | rfl | rfl
  · rw [h2] at g1; cases g1
  · rw [h2] at g0; cases g0
  · rw [g2] at h1; cases h1
  · rw [g2] at h0; cases h0
/-- as it was, or spoilt -/
def Sp (W0 W : World) (b o : Nat) : Prop := (W.cell? ⟨b, o, none⟩ = W0.cell? ⟨b, o, none⟩ ∧ W.cell? ⟨b, o + 1, none⟩ = W0.cell? ⟨b, o + 1, none⟩ ∧ W.cell? ⟨b, o + 2, none⟩ = W0.cell? ⟨b, o + 2, none⟩) ∨
  (W.cell? ⟨b, o, none⟩ = some (.int .i64 (-7)) ∧ W.cell? ⟨b, o + 1, none⟩ = some (.int .i64 0) ∧ W.cell? ⟨b, o + 2, none⟩ = some (.slice none 0 0))
structure Spl (S : Nat → Prop) (W0 W : World) : Prop where
  kept : Kept S W0 W
  sp : ∀ b o, S b → Pos W0 b o → Sp W0 W b o
  plain : ∀ b, S b → PlainB W0 b → PlainB W b
theorem Spl.refl (S : Nat → Prop) (W : World) : Spl S W W := ⟨Kept.refl _ _, fun _ _ _ _ => .inl ⟨rfl, rfl, rfl⟩, fun _ _ h => h⟩
theorem Spl.keep {S : Nat → Prop} {W0 W W' : World} (h : Spl S W0 W) (hk : Kept (fun _ => False) W W') (hS : ∀ b, S b → b < W0.heap.size) : Spl S W0 W' := by
  have hs := h.kept.size
  have cl : ∀ b o, S b → W'.cell? ⟨b, o, none⟩ = W.cell? ⟨b, o, none⟩ := fun b o hb => hk.cell (p := ⟨b, o, none⟩) (by have := hS b hb; simp only; omega) (fun f => f)
  refine ⟨h.kept.trans hk (fun _ _ f => f.elim), fun b o hb hp => ?_, fun b hb hp => (h.plain b hb hp).of_block (hk.block b (by have := hS b hb; omega) (fun f => f))⟩
  rcases h.sp b o hb hp with ⟨a1, a2, a3⟩ | ⟨a1, a2, a3⟩
  · exact .inl ⟨(cl _ _ hb).trans a1, (cl _ _ hb).trans a2, (cl _ _ hb).trans a3⟩
  · exact .inr ⟨(cl _ _ hb).trans a1, (cl _ _ hb).trans a2, (cl _ _ hb).trans a3⟩
theorem plainB_set {W : World} {b : Nat} (p : Addr) (v : Value) (h : PlainB W b) : PlainB (W.setCell p v) b := by
  obtain ⟨c, t, hh⟩ := h
  by_cases e : p.block = b
  · subst e
    simp [PlainB, World.setCell, Array.getElem?_modify, hh]
  · exact ⟨c, t, (Below.heap_setCell _ _ _ _ (Ne.symm e)).trans hh⟩
theorem plain_cells {W : World} {b : Nat} (h : PlainB W b) (o : Nat) : W.frozen? ⟨b, o, none⟩ = false := plain_frozen h o
theorem Spl.put {S : Nat → Prop} {W0 W : World} (h : Spl S W0 W) {b o : Nat} (hb : S b) (hp : Pos W0 b o) : Spl S W0 (((W.setCell ⟨b, o, none⟩ (.int .i64 (-7))).setCell ⟨b, o + 1, none⟩ (.int .i64 0)).setCell ⟨b, o + 2, none⟩ (.slice none 0 0)) := by
  refine ⟨((h.kept.setCell (p := ⟨b, o, none⟩) (fun _ => hb) _).setCell (p := ⟨b, o + 1, none⟩) (fun _ => hb) _).setCell (p := ⟨b, o + 2, none⟩) (fun _ => hb) _, fun b' o' hb' hp' => ?_, fun b' hb' hp' => plainB_set _ _ (plainB_set _ _ (plainB_set _ _ (h.plain b' hb' hp')))⟩
  have hold : ∀ i, i < 3 → ∃ v, W.cell? ⟨b, o + i, none⟩ = some v := by
    obtain ⟨x, y, s, l, c, h0, h1, h2⟩ := hp
    intro i hi
    rcases h.sp b o hb ⟨x, y, s, l, c, h0, h1, h2⟩ with ⟨a0, a1, a2⟩ | ⟨a0, a1, a2⟩
    · obtain rfl | rfl | rfl : i = 0 ∨ i = 1 ∨ i = 2 := by omega
      · exact ⟨_, a0.trans h0⟩
      · exact ⟨_, a1.trans h1⟩
      · exact ⟨_, a2.trans h2⟩
    · obtain rfl | rfl | rfl : i = 0 ∨ i = 1 ∨ i = 2 := by omega
      · exact ⟨_, a0⟩
      · exact ⟨_, a1⟩
      · exact ⟨_, a2⟩
  obtain ⟨v0, e0⟩ := hold 0 (by omega)
  obtain ⟨v1, e1⟩ := hold 1 (by omega)
  obtain ⟨v2, e2⟩ := hold 2 (by omega)
  rw [Nat.add_zero] at e0
  by_cases hsame : b' = b ∧ o' = o
  · obtain ⟨rfl, rfl⟩ := hsame
    refine .inr ⟨?_, ?_, ?_⟩ <;> simp [go_sem, e0, e1, e2]
  · have hoth : ∀ i, i < 3 → (((W.setCell ⟨b, o, none⟩ (.int .i64 (-7))).setCell ⟨b, o + 1, none⟩ (.int .i64 0)).setCell ⟨b, o + 2, none⟩ (.slice none 0 0)).cell? ⟨b', o' + i, none⟩ = W.cell? ⟨b', o' + i, none⟩ := by
      intro i hi
      by_cases e : b' = b
      · subst e
        have := hp.apart hp' (fun e => hsame ⟨rfl, e.symm⟩)
        rw [World.cell?_setCell_other _ _ _ _ (fun e => by injection e; omega), World.cell?_setCell_other _ _ _ _ (fun e => by injection e; omega), World.cell?_setCell_other _ _ _ _ (fun e => by injection e; omega)]
      · rw [World.cell?_setCell_other _ _ _ _ (fun h => e (by have h2 := congrArg Addr.block h; simp only at h2; omega)), World.cell?_setCell_other _ _ _ _ (fun h => e (by have h2 := congrArg Addr.block h; simp only at h2; omega)), World.cell?_setCell_other _ _ _ _ (fun h => e (by have h2 := congrArg Addr.block h; simp only at h2; omega))]
    have q0 := hoth 0 (by omega)
    have q1 := hoth 1 (by omega)
    have q2 := hoth 2 (by omega)
    rw [Nat.add_zero] at q0
    rcases h.sp b' o' hb' hp' with ⟨a1, a2, a3⟩ | ⟨a1, a2, a3⟩
    · exact .inl ⟨q0.trans a1, q1.trans a2, q2.trans a3⟩
    · exact .inr ⟨q0.trans a1, q1.trans a2, q2.trans a3⟩
theorem FsS.get {S : Nat → Prop} {w : World} : ∀ {l : List Tr} {b o j : Nat} {t : Tr}, FsS S w b o l → l[j]? = some t → FS S w b (o + j * 3) t
  | t :: r, b, o, 0, t', h, e => by simp at e; subst e; simpa using h.1
  | t :: r, b, o, j + 1, t', h, e => by
    have := FsS.get h.2 (j := j) (by simpa using e)
    rwa [show o + (j + 1) * 3 = o + 3 + j * 3 by omega]

def Says17 (S : Nat → Prop) (W0 : World) (N : Nat) : Prop := ∀ (t : Tr), t.size ≤ N → N ≤ 268435456 → ∀ (w : World) (v : Value), FVS S W0 v t → Spl S W0 w →
    Calls Tryd.prog 17 #[v] w fun e w' => e = .returned (.tuple #[]) ∧ Spl S W0 w' ∧ Kept S w w'

set_option maxRecDepth 100000 in
set_option maxHeartbeats 4000000 in
theorem spoil17 (S : Nat → Prop) (W0 : World) (hS0 : ∀ b, S b → b < W0.heap.size) : ∀ (N : Nat), Says17 S W0 N := by
  have HS0 : Hid (∀ b, S b → b < W0.heap.size) := hS0
  clear hS0
  intro N
  induction N with
  | zero => intro t ht; have := t.size_pos; omega
  | succ N ih =>
    intro t ht hN w v hv hspl
    have hS := HS0.out
    obtain ⟨op, nn, kids⟩ := t
    obtain ⟨a1, b1, p1, c1, rfl, e1, g1⟩ := hv
    have IH : Hid (Says17 S W0 N) := ih
    have E1 : Hid (0 < kids.length → a1 = some ⟨b1, p1, none⟩) := e1
    have G1 : Hid (FsS S W0 b1 p1 kids) := g1
    have hsz : Tr.sizes kids ≤ N := by simp only [Tr.size] at ht; omega
    have hkl : kids.length ≤ N := by
      have : ∀ l : List Tr, l.length ≤ Tr.sizes l := by
        intro l
        induction l with
        | nil => simp
        | cons t r ih => have := t.size_pos; simp [Tr.sizes]; omega
      exact Nat.le_trans (this kids) hsz
    obtain ⟨W1, hW1⟩ : ∃ W1, W1 = w.alloc (.cells #[.int .i64 op, .int .i64 nn, .slice a1 kids.length c1] 24) := ⟨_, rfl⟩
    have k1 : Kept (fun _ => False) w W1 := by rw [hW1]; exact (Kept.refl _ _).alloc _
    have x2 : W1.cell? ⟨w.heap.size, 2, none⟩ = some (.slice a1 kids.length c1) := by rw [hW1]; simp
    have HS1 : Hid (Spl S W0 W1) := hspl.keep k1 hS
    have hw0 := hspl.kept.size
    have hbox : ¬ S w.heap.size := fun h => by have := hS _ h; omega
    clear ih e1 g1 ht hspl hS
    go_enter Tryd.func17, Tryd.ntmps17
    go_upto_region 1 with fail
    rw [← hW1]
    clear hW1
    go_wp2_with fail
    go_loopg [2] kids.length (fun k x wr => ∃ j : Nat, j ≤ kids.length ∧ x = .int .i64 (j : Int) ∧ k = kids.length - j ∧ Spl S W0 wr ∧ Kept S W1 wr)
    case atStart => exact ⟨0, Nat.zero_le _, rfl, by omega, HS1.out, Kept.refl _ _⟩
    case round =>
      obtain ⟨j, hj, rfl, hk, hsp, hkr⟩ := hrel
      have HSP : Hid (Spl S W0 wr) := hsp
      have HKR : Hid (Kept S W1 wr) := hkr
      have y2 := (hkr.cell (p := ⟨w.heap.size, 2, none⟩) (lt_of_cell x2) hbox).trans x2
      clear hsp hkr
      by_cases hlt : j < kids.length
      · have hlti : (j : Int) < (kids.length : Int) := by omega
        have ea := E1.out (by omega)
        subst ea
        obtain ⟨t', ht'⟩ : ∃ t', kids[j]? = some t' := ⟨kids[j], List.getElem?_eq_getElem hlt⟩
        have hts : t'.size ≤ N := Nat.le_trans (Tr.sizes_mem (List.mem_of_getElem? ht')) hsz
        have hfs := G1.out.get ht'
        obtain ⟨o', n', ks'⟩ := t'
        obtain ⟨hSb, hpb, q0, q1, ka, kb, ko, kc, q2, hka, hff⟩ := hfs
        have HPOS : Hid (Pos W0 b1 (p1 + j * 3)) := ⟨_, _, _, _, _, q0, q1, q2⟩
        have hpw := HSP.out.plain b1 hSb hpb
        have hcase : ∃ t2 v2 x y z, t2.size ≤ N ∧ v2 = .agg #[x, y, z] ∧ FVS S W0 v2 t2 ∧ wr.cell? ⟨b1, p1 + j * 3, none⟩ = some x ∧ wr.cell? ⟨b1, p1 + j * 3 + 1, none⟩ = some y ∧ wr.cell? ⟨b1, p1 + j * 3 + 2, none⟩ = some z := by
          rcases HSP.out.sp b1 _ hSb HPOS.out with ⟨r0, r1, r2⟩ | ⟨r0, r1, r2⟩
          · exact ⟨.mk o' n' ks', _, _, _, _, hts, rfl, ⟨ka, kb, ko, kc, rfl, hka, hff⟩, r0.trans q0, r1.trans q1, r2.trans q2⟩
          · exact ⟨.mk (-7) 0 [], _, _, _, _, by simp [Tr.size, Tr.sizes]; omega, rfl, FVS.leaf _ _ _ _, r0, r1, r2⟩
        obtain ⟨t2, v2, x, y, z, hs2, hv2, hf2, r0, r1, r2⟩ := hcase
        obtain ⟨o3, n3, a3, l3, c3, hv3⟩ := FVS.agg hf2
        rw [hv2] at hv3
        injection hv3 with hv3
        simp only [Array.mk.injEq, List.cons.injEq, and_true] at hv3
        obtain ⟨rfl, rfl, rfl⟩ := hv3
        subst hv2
        have HF2 : Hid (FVS S W0 (.agg #[.int .i64 o3, .int .i64 n3, .slice a3 l3 c3]) t2) := hf2
        have HK : Hid (gk = kids.length - j) := hk
        clear q0 q1 q2 hka hff ht' hf2 hk
        go_upto_region 5 with (go_at_call 17; refine (IH.out t2 hs2 (by omega) wr _ HF2.out HSP.out).mono ?_; rintro e w2 ⟨rfl, hsp2, hk2⟩)
        have hpw2 := hsp2.plain b1 hSb hpb
        have f0 := plain_cells hpw2 (p1 + j * 3)
        have f1 := plain_cells hpw2 (p1 + j * 3 + 1)
        have f2 := plain_cells hpw2 (p1 + j * 3 + 2)
        have hl1 : b1 < w2.heap.size := plain_lt hpw2
        obtain ⟨m0, m1, m2, d0, d1, d2⟩ : ∃ m0 m1 m2, w2.cell? ⟨b1, p1 + j * 3, none⟩ = some m0 ∧ w2.cell? ⟨b1, p1 + j * 3 + 1, none⟩ = some m1 ∧ w2.cell? ⟨b1, p1 + j * 3 + 2, none⟩ = some m2 := by
          obtain ⟨_, _, _, _, _, h0, h1, h2⟩ := HPOS.out
          rcases hsp2.sp b1 _ hSb HPOS.out with ⟨r0, r1, r2⟩ | ⟨r0, r1, r2⟩
          · exact ⟨_, _, _, r0.trans h0, r1.trans h1, r2.trans h2⟩
          · exact ⟨_, _, _, r0, r1, r2⟩
        have y22 := (hk2.cell (p := ⟨w.heap.size, 2, none⟩) (lt_of_cell y2) hbox).trans y2
        have HP2 : Hid (Spl S W0 (((w2.setCell ⟨b1, p1 + j * 3, none⟩ (.int .i64 (-7))).setCell ⟨b1, p1 + j * 3 + 1, none⟩ (.int .i64 0)).setCell ⟨b1, p1 + j * 3 + 2, none⟩ (.slice none 0 0)) ∧ Kept S W1 (((w2.setCell ⟨b1, p1 + j * 3, none⟩ (.int .i64 (-7))).setCell ⟨b1, p1 + j * 3 + 1, none⟩ (.int .i64 0)).setCell ⟨b1, p1 + j * 3 + 2, none⟩ (.slice none 0 0))) := ⟨hsp2.put hSb HPOS.out, (((HKR.out.trans hk2 (fun _ _ h => h)).setCell (p := ⟨b1, p1 + j * 3, none⟩) (fun _ => hSb) _).setCell (p := ⟨b1, p1 + j * 3 + 1, none⟩) (fun _ => hSb) _).setCell (p := ⟨b1, p1 + j * 3 + 2, none⟩) (fun _ => hSb) _⟩
        clear hsp2 hk2 r0 r1 r2 y2 hpw hpw2
        go_upto_region 3 with fail
        obtain ⟨W3, hW3⟩ : ∃ W3, W3 = (((w2.setCell ⟨b1, p1 + j * 3, none⟩ (.int .i64 (-7))).setCell ⟨b1, p1 + j * 3 + 1, none⟩ (.int .i64 0)).setCell ⟨b1, p1 + j * 3 + 2, none⟩ (.slice none 0 0)) := ⟨_, rfl⟩
        rw [← hW3] at HP2
        rw [← hW3]
        clear hW3 d0 d1 d2 f0 f1 f2 y22 hl1 hSb hpb x2 hbox hts hs2
        have hin : wrap64 ((j : Int) + 1) = ((j + 1 : Nat) : Int) := by unfold wrap64; omega
        have HJ : Hid (j < kids.length) := hlt
        clear hlt hlti hj hsz hkl hN hw0
        go_wp2
        go_roundg (kids.length - (j + 1))
        case measure => have := HK.out; have := HJ.out; omega
        case rel => exact ⟨j + 1, HJ.out, by rw [hin], rfl, HP2.out.1, HP2.out.2⟩
      · have hlti : ¬ (j : Int) < (kids.length : Int) := by omega
        go_wp2
        go_end0
        exact ⟨rfl, HSP.out, (k1.mono (T := S) (fun _ _ f => f.elim)).trans HKR.out (fun _ _ h => h)⟩
end Go.Proofs.YtdbpdanocpfboaaDoor
