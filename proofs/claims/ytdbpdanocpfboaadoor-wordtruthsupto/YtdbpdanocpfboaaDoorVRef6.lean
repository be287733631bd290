/- What the reference's rows hold, place by place. -/
import Derived.Test.YtdbpdanocpfboaaDoorVRef5
namespace Go.Proofs.YtdbpdanocpfboaaDoor
open Go.RowKit

theorem ORow.other {w0 w : World} {b : Nat} {xs : List Bool} (h : ORow w0 w b xs) {p : Addr} (hp : p.block ≠ b) (hw : w0.heap.size ≤ p.block) (v : Value) : ORow w0 (w.setCell p v) b xs := by
  obtain ⟨h1, h2, h3, h4⟩ := h
  have hb : (w.setCell p v).heap[b]? = w.heap[b]? := Below.heap_setCell _ _ _ _ (fun e => hp e.symm)
  exact ⟨h1.setCell (fun hh => by omega) _, h2, Nat.lt_of_lt_of_le h3 (by simp [World.setCell]), fun i hi => ⟨(World.cell?_of_block (w := w) (a := ⟨b, i, none⟩) hb).trans (h4 i hi).1, (World.frozen?_of_block (w := w) (a := ⟨b, i, none⟩) hb).trans (h4 i hi).2⟩⟩
theorem ORow.cells {w0 w : World} {b n : Nat} {xs : List Bool} (h : ORow w0 w b xs) (hl : xs.length = n) : ∀ i, i < n → w.cell? ⟨b, i, none⟩ = some (.bool (xs.getD i false)) := fun _ hi => h.cell (by omega) rfl

theorem later8 (w : World) (B : Nat) (wv : Value) (hd lp : List Int) (us vs : List Bool) (bf bg n : Nat) (hn2 : n ≤ 20000) (hn : hd.length + lp.length = n) (hu : us.length = n) (hv : vs.length = n) (hlp : 0 < lp.length) (hW : WordV B w wv hd lp) (hB : B ≤ w.heap.size) (hf : ∀ i, i < n → w.cell? ⟨bf, i, none⟩ = some (.bool (us.getD i false))) (hg : ∀ i, i < n → w.cell? ⟨bg, i, none⟩ = some (.bool (vs.getD i false))) :
    Calls Tryd.prog 109 #[wv, .int .i64 8, .slice (some ⟨bf, 0, none⟩) n n, .slice (some ⟨bg, 0, none⟩) n n] w fun e w' => ∃ b, e = .returned (.slice (some ⟨b, 0, none⟩) n n) ∧ ORow w w' b (backRow pUntil false us vs hd.length) := by
  subst hu
  exact later111_8 w B wv hd lp us vs bf bg hn2 hn hv hlp hW hB hf hg
theorem later9 (w : World) (B : Nat) (wv : Value) (hd lp : List Int) (us vs : List Bool) (bf bg n : Nat) (hn2 : n ≤ 20000) (hn : hd.length + lp.length = n) (hu : us.length = n) (hv : vs.length = n) (hlp : 0 < lp.length) (hW : WordV B w wv hd lp) (hB : B ≤ w.heap.size) (hf : ∀ i, i < n → w.cell? ⟨bf, i, none⟩ = some (.bool (us.getD i false))) (hg : ∀ i, i < n → w.cell? ⟨bg, i, none⟩ = some (.bool (vs.getD i false))) :
    Calls Tryd.prog 109 #[wv, .int .i64 9, .slice (some ⟨bf, 0, none⟩) n n, .slice (some ⟨bg, 0, none⟩) n n] w fun e w' => ∃ b, e = .returned (.slice (some ⟨b, 0, none⟩) n n) ∧ ORow w w' b (backRow pRelease true us vs hd.length) := by
  subst hu
  exact later111_9 w B wv hd lp us vs bf bg hn2 hn hv hlp hW hB hf hg

theorem atB_congr {p q : Bool → Bool → Bool → Bool} {us us' vs : List Bool} (hu : us.length = vs.length) (hu' : us'.length = vs.length) (h : ∀ i (hi : i < us.length) (hi' : i < us'.length) w l, p us[i] w l = q us'[i] w l) (x : Bool) : ∀ d j, vs.length - j = d → j ≤ vs.length → atB p x us vs j = atB q x us' vs j := by
  intro d
  induction d with
  | zero =>
    intro j hd hj
    have e : j = vs.length := by omega
    have e1 : j = us.length := by omega
    have e2 : j = us'.length := by omega
    rw [e1, atB_end, ← e1, e2, atB_end]
  | succ d ih =>
    intro j hd hj
    rw [atB_step _ _ _ _ j (by omega) (by omega), atB_step _ _ _ _ j (by omega) (by omega), ih (j + 1) (by omega) (by omega)]
    exact h j (by omega) (by omega) _ _
theorem back_congr {p q : Bool → Bool → Bool → Bool} {st : Bool} {us us' vs : List Bool} {L : Nat} (hu : us.length = vs.length) (hu' : us'.length = vs.length) (hL : L < vs.length) (h : ∀ i (hi : i < us.length) (hi' : i < us'.length) w l, p us[i] w l = q us'[i] w l) : backRow p st us vs L = backRow q st us' vs L := by
  rw [back_sweep, back_sweep, atB_congr hu hu' h st (vs.length - L) L rfl (by omega)]
  unfold sweep
  rw [hu, hu']
  apply List.map_congr_left
  intro j hj
  rw [List.mem_range] at hj
  exact atB_congr hu hu' h _ (vs.length - j) j rfl (by omega)
theorem back_fin {vs : List Bool} {n L : Nat} (hv : vs.length = n) (hL : L < n) : backRow pUntil false (List.replicate n true) vs L = backRow pFin false vs vs L :=
  back_congr (by simp [hv]) rfl (by omega) (fun i hi hi' w l => by simp [pUntil, pFin])
theorem back_glob {vs : List Bool} {n L : Nat} (hv : vs.length = n) (hL : L < n) : backRow pRelease true (List.replicate n false) vs L = backRow pGlob true vs vs L :=
  back_congr (by simp [hv]) rfl (by omega) (fun i hi hi' w l => by simp [pRelease, pGlob])

section
variable {xs : List Int} {L n k : Nat} {nn : Int} {a b : List Bool}
theorem row_get0 (hx : xs.length = n) (hk : k < n) : (rowOp xs L 0 nn a b).getD k false = true := by
  simp [rowOp, hx, hk]
theorem row_get1 (hx : xs.length = n) (hk : k < n) : (rowOp xs L 1 nn a b).getD k false = false := by
  simp [rowOp, hx, hk]
theorem row_get2 (hx : xs.length = n) (hk : k < n) : (rowOp xs L 2 nn a b).getD k false = bitB (xs.getD k 0) nn := by
  have : k < xs.length := by omega
  simp [rowOp, this]
theorem row_get3 (ha : a.length = n) (hk : k < n) : (rowOp xs L 3 nn a b).getD k false = !a.getD k false := getD_zip (fun v _ => !v) ha ha hk
theorem row_get4 (ha : a.length = n) (hb : b.length = n) (hk : k < n) : (rowOp xs L 4 nn a b).getD k false = (a.getD k false && b.getD k false) := getD_zip (fun v w => v && w) ha hb hk
theorem row_get5 (ha : a.length = n) (hb : b.length = n) (hk : k < n) : (rowOp xs L 5 nn a b).getD k false = (a.getD k false || b.getD k false) := getD_zip (fun v w => v || w) ha hb hk
theorem row_get6 (ha : a.length = n) (hb : b.length = n) (hk : k < n) : (rowOp xs L 6 nn a b).getD k false = (!a.getD k false || b.getD k false) := getD_zip (fun v w => !v || w) ha hb hk
theorem row_get7 (ha : a.length = n) (hk : k < n) : (rowOp xs L 7 nn a b).getD k false = a.getD (if k + 1 = n then L else k + 1) false := by
  change (a.drop 1 ++ [a.getD L false]).getD k false = _
  by_cases h : k + 1 = n
  · rw [if_pos h, List.getD_eq_getElem?_getD, List.getElem?_append_right (by simp; omega)]
    have : k - (a.drop 1).length = 0 := by simp; omega
    rw [this]
    rfl
  · rw [if_neg h, List.getD_eq_getElem?_getD, List.getElem?_append_left (by simp; omega), List.getElem?_drop, List.getD_eq_getElem?_getD, Nat.add_comm 1]
end
theorem wAt_lt {hd lp : List Int} {k : Nat} (hk : k < hd.length + lp.length) : wAt hd lp k = (hd ++ lp).getD k 0 := by
  unfold wAt
  by_cases h : k < hd.length
  · rw [if_pos h, List.getD_eq_getElem?_getD, List.getD_eq_getElem?_getD, List.getElem?_append_left h]
  · rw [if_neg h, Nat.mod_eq_of_lt (by omega), List.getD_eq_getElem?_getD, List.getD_eq_getElem?_getD, List.getElem?_append_right (by omega)]
theorem tv_un (xs : List Int) (L : Nat) (op n : Int) (t : Tr) : tvT xs L (.mk op n [t]) = rowOp xs L op n (tvT xs L t) [] := by simp [tvT, tvTs]
theorem tv_bi (xs : List Int) (L : Nat) (op n : Int) (t t' : Tr) : tvT xs L (.mk op n [t, t']) = rowOp xs L op n (tvT xs L t) (tvT xs L t') := by simp [tvT, tvTs]
theorem tv_leaf (xs : List Int) (L : Nat) (op n : Int) : tvT xs L (.mk op n []) = rowOp xs L op n [] [] := by simp [tvT, tvTs]
end Go.Proofs.YtdbpdanocpfboaaDoor
