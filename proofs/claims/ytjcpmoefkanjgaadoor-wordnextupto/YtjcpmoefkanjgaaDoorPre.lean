/- Small contracts for the laws: places, truths and holds of what is good. -/
import Derived.Test.YtjcpmoefkanjgaaDoorLaw8
import Derived.Test.YtjcpmoefkanjgaaDoorWell
namespace Go.Proofs.YtjcpmoefkanjgaaDoor
open Go.RowKit

set_option maxRecDepth 100000 in
set_option maxHeartbeats 1000000 in
theorem places44 (w : World) (B : Nat) (v : Value) (hd lp : List Int) (hW : WordV B w v hd lp) : Calls Tryd.prog 44 #[v] w fun e w' => Kept (fun _ => False) w w' ∧ e = .returned (.int .i64 ((hd.length + lp.length : Nat) : Int)) := by
  obtain ⟨hv1, lv1, rfl, h1, h2⟩ := id hW
  obtain ⟨ha, hc, rfl, hl1⟩ := h1.form
  obtain ⟨la, lc, rfl, hl2⟩ := h2.form
  clear hW h1 h2
  go_enter Tryd.func44, Tryd.ntmps44
  go_wp2
  go_ret
  exact ⟨(Kept.refl _ _).alloc _, ret_int (by omega)⟩

theorem truths27g (w : World) (B : Nat) (fv wv : Value) (hd lp : List Int) (t : Tr) (hW : WordV B w wv hd lp) (hF : FormV B w fv t) (hB : B ≤ w.heap.size) (hT : TabK w) (hB2 : 2 ≤ B) (hsz : t.size ≤ 268435456) (hg : goodW hd lp = true) (ht : t.well) :
    Calls Tryd.prog 27 #[fv, wv] w fun e w' => ∃ b n, e = .returned (.slice (some ⟨b, 0, none⟩) n n) ∧ n = hd.length + lp.length ∧ Kept (fun _ => False) w w' ∧ ∀ i, i < n → w'.cell? ⟨b, i, none⟩ = some (.bool ((tvT (hd ++ lp) hd.length t).getD i false)) := by
  refine (truths27 w B fv wv hd lp t hW hF hB hT hB2 hsz).mono ?_
  rintro e w' ⟨hk, ⟨h, _⟩ | ⟨_, _, b, v, rfl, _, hr⟩⟩
  · exact absurd ⟨hg, ht⟩ h
  · have hl := tvT_len (hd ++ lp) hd.length (by have := (goodW_len hg).2; simp; omega) t ht
    obtain ⟨r1, r2, r3⟩ := hr
    refine ⟨b, _, by rw [r1], by rw [hl]; simp, hk, fun i hi => ?_⟩
    have := (r3 i hi).1
    rw [this, List.getD_eq_getElem?_getD, List.getElem?_eq_getElem hi]
    rfl

theorem holds33g (w : World) (B : Nat) (fv wv : Value) (hd lp : List Int) (t : Tr) (z : Bool) (hz : (tvT (hd ++ lp) hd.length t).headD false = z) (hW : WordV B w wv hd lp) (hF : FormV B w fv t) (hB : B ≤ w.heap.size) (hT : TabK w) (hB2 : 2 ≤ B) (hsz : t.size ≤ 268435456) (hg : goodW hd lp = true) (ht : t.well) :
    Calls Tryd.prog 33 #[fv, wv] w fun e w' => Kept (fun _ => False) w w' ∧ e = .returned (.bool z) := by
  subst hz
  refine (holds33 w B fv wv hd lp t hW hF hB hT hB2 hsz).mono ?_
  rintro e w' ⟨hk, ⟨h, _⟩ | ⟨_, _, h⟩⟩
  · exact absurd ⟨hg, ht⟩ h
  · exact ⟨hk, h⟩
theorem FVS.agg {S : Nat → Prop} {w : World} {v : Value} {t : Tr} (h : FVS S w v t) : ∃ op n a l c, v = .agg #[.int .i64 op, .int .i64 n, .slice a l c] := by
  obtain ⟨op, n, kids⟩ := t
  obtain ⟨ka, kb, ko, kc, e, _⟩ := h
  exact ⟨_, _, _, _, _, e⟩

/-- a Form's box -/
def Bx3 (W : World) (b : Nat) (x y z : Value) : Prop := W.cell? ⟨b, 0, none⟩ = some x ∧ W.cell? ⟨b, 1, none⟩ = some y ∧ W.cell? ⟨b, 2, none⟩ = some z
theorem Bx3.kept {W W' : World} {b : Nat} {x y z : Value} (h : Bx3 W b x y z) (hk : Kept (fun _ => False) W W') : Bx3 W' b x y z :=
  ⟨(hk.cell (lt_of_cell h.1) (fun f => f)).trans h.1, (hk.cell (lt_of_cell h.2.1) (fun f => f)).trans h.2.1, (hk.cell (lt_of_cell h.2.2) (fun f => f)).trans h.2.2⟩

theorem FormV.new {w w' : World} {v : Value} {t : Tr} (h : FormV w.heap.size w v t) (hk : Kept (fun _ => False) w w') : FormV w'.heap.size w' v t := (h.below (hk.below (Nat.le_refl _) (fun _ f => f.elim))).mono hk.size
end Go.Proofs.YtjcpmoefkanjgaaDoor
