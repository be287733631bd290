import Derived.Test.YtdbpdanocpfboabGreatDoorZBun07
import Derived.Test.YtdbpdanocpfboabGreatDoorZRp
/- Words in memory, for Least and Same. -/
namespace Go.Proofs.YtdbpdanocpfboabGreatDoor
open Go.RowKit

theorem cell_set_rowI {w : World} {b k : Nat} (h : (w.cell? ⟨b, k, none⟩).isSome = true) (v : Value) (j : Nat) : (w.setCell ⟨b, k, none⟩ v).cell? ⟨b, j, none⟩ = if j = k then some v else w.cell? ⟨b, j, none⟩ := by
  by_cases e : j = k
  · subst e; rw [World.cell?_setCell_same' _ _ _ h]; simp
  · rw [World.cell?_setCell_other _ _ _ _ (by simp)]; simp [e]
theorem cell_madeI {w : World} (z : Value) (n : Nat) (t : TypeId) {j : Nat} (hj : j < n) : (w.alloc (.cells (madeCells #[z] n) t)).cell? ⟨w.heap.size, j, none⟩ = some z := by
  rw [World.cell?_alloc_new, ← Array.getElem?_toList, toList_madeCells_one]
  simp [hj]
/-- block b, new since w0, is a row of n ints f -/
def CRowI (w0 w : World) (b n : Nat) (f : Nat → Int) : Prop :=
  Kept (fun _ => False) w0 w ∧ w0.heap.size ≤ b ∧ ∀ i, i < n → w.cell? ⟨b, i, none⟩ = some (.int .i64 (f i)) ∧ w.frozen? ⟨b, i, none⟩ = false
theorem CRowI.kept {w0 w w' : World} {b n : Nat} {f : Nat → Int} (h : CRowI w0 w b n f) (hk : Kept (fun _ => False) w w') : CRowI w0 w' b n f := by
  obtain ⟨h1, h2, h3⟩ := h
  refine ⟨h1.trans hk (fun _ _ f => f), h2, fun i hi => ?_⟩
  have hl := lt_of_cell (h3 i hi).1
  rw [hk.cell (p := ⟨b, i, none⟩) hl (fun f => f), hk.frozen (p := ⟨b, i, none⟩) hl (fun f => f)]
  exact h3 i hi
theorem CRowI.put {w0 w : World} {b n : Nat} {f g : Nat → Int} (h : CRowI w0 w b n f) {k : Nat} (hk : k < n) {v : Int} (hg : ∀ i, i < n → g i = if i = k then v else f i) : CRowI w0 (w.setCell ⟨b, k, none⟩ (.int .i64 v)) b n g := by
  obtain ⟨h1, h2, h3⟩ := h
  refine ⟨h1.setCell (fun hh => by simp at hh; omega) _, h2, fun i hi => ?_⟩
  rw [cell_set_rowI (by rw [(h3 k hk).1]; rfl), World.frozen?_setCell, hg i hi]
  refine ⟨?_, (h3 i hi).2⟩
  split
  · rfl
  · exact (h3 i hi).1
theorem CRowI.congr {w0 w : World} {b n : Nat} {f g : Nat → Int} (h : CRowI w0 w b n f) (hg : ∀ i, i < n → g i = f i) : CRowI w0 w b n g :=
  ⟨h.1, h.2.1, fun i hi => by rw [hg i hi]; exact h.2.2 i hi⟩

theorem CRowI.start (w : World) (n : Nat) : CRowI w (w.alloc (.cells (madeCells #[.int .i64 0] n) 3)) w.heap.size n (fun _ => 0) :=
  ⟨(Kept.refl _ _).alloc _, Nat.le_refl _, fun i hi => ⟨(cell_madeI _ _ _ hi).trans (by simp), by simp⟩⟩
theorem infoI : (Tryz.prog.info? 3).map (fun i => (i.zero, i.size, i.bytes)) = some (some (.int .i64 0), 1, 8) := by kernel_rfl

/-- the box of a word's places -/
def Box2 (w : World) (b : Nat) (u v : Value) : Prop := b < w.heap.size ∧ w.cell? ⟨b, 0, none⟩ = some u ∧ w.cell? ⟨b, 1, none⟩ = some v ∧ w.frozen? ⟨b, 0, none⟩ = false ∧ w.frozen? ⟨b, 1, none⟩ = false
theorem Box2.kept {w w' : World} {b : Nat} {u v : Value} (h : Box2 w b u v) (hk : Kept (fun _ => False) w w') : Box2 w' b u v := by
  obtain ⟨h0, h1, h2, h3, h4⟩ := h
  exact ⟨Nat.lt_of_lt_of_le h0 hk.size, (hk.cell (p := ⟨b, 0, none⟩) h0 (fun f => f)).trans h1, (hk.cell (p := ⟨b, 1, none⟩) h0 (fun f => f)).trans h2, (hk.frozen (p := ⟨b, 0, none⟩) h0 (fun f => f)).trans h3, (hk.frozen (p := ⟨b, 1, none⟩) h0 (fun f => f)).trans h4⟩

theorem WordV.kept {B : Nat} {w w' : World} {v : Value} {hd lp : List Int} (h : WordV B w v hd lp) (hk : Kept (fun _ => False) w w') (hB : B ≤ w.heap.size) : WordV B w' v hd lp := by
  obtain ⟨a, b, e, h1, h2⟩ := h
  exact ⟨a, b, e, h1.below (hk.below hB (fun _ f => f.elim)), h2.below (hk.below hB (fun _ f => f.elim))⟩
theorem goodW_len {hd lp : List Int} (hg : goodW hd lp = true) : hd.length + lp.length ≤ 20000 ∧ 0 < lp.length := by
  unfold goodW at hg
  rw [Bool.and_eq_true, Bool.and_eq_true, decide_eq_true_eq] at hg
  refine ⟨hg.1.2, ?_⟩
  cases lp with
  | nil => simp at hg
  | cons a l => simp

def sameB (hd lp hd' lp' : List Int) : Bool := goodW hd lp && goodW hd' lp' && (List.range (max hd.length hd'.length + lp.length + lp'.length)).all fun i => decide (wAt hd lp i = wAt hd' lp' i)
end Go.Proofs.YtdbpdanocpfboabGreatDoor

/- A region that draws its order, by what holds whatever has come up. -/
namespace Go.Proofs.YtdbpdanocpfboabGreatDoor
open Go.RowKit

def cntF (L : Array Bool) : Nat := L.toList.count false
theorem cntF_set {L : Array Bool} {i : Nat} (h : L.getD i true = false) : cntF (L.setIfInBounds i true) + 1 = cntF L := by
  have hi : i < L.size := by
    by_cases hi : i < L.size
    · exact hi
    · simp [hi] at h
  have hv : L.toList[i]'(by simpa using hi) = false := by simpa [hi] using h
  unfold cntF
  rw [Array.toList_setIfInBounds, List.count_set (by simpa using hi)]
  simp only [hv]
  have : 0 < L.toList.count false := by
    rw [List.count_pos_iff]
    exact List.mem_iff_getElem.2 ⟨i, by simpa using hi, hv⟩
  have e1 : (true == false) = false := rfl
  simp only [beq_self_eq_true, if_true, e1]
  simp only [Bool.false_eq_true, if_false]
  omega

theorem wpAny_inv {P : Program} {md : Region.Mode} {ops : Array Oper} {Q : Exit → Act → World → Prop} (I : Array Bool → Act → World → Prop)
    (hend : ∀ L a w, I L a w → Region.ready md ops L = [] → Q .normal a w)
    (hstep : ∀ L a w, I L a w → ∀ i, i ∈ Region.ready md ops L → ∀ K : Act → World → Prop, (∀ a' w', I (L.setIfInBounds i true) a' w' → K a' w') → ∀ o, ops[i]? = some o → if Region.wanted o (yielded ops a.tmps) then o.wp P a w K Q else K (a.put o.dst undef) w) :
    ∀ (fuel : Nat) (L : Array Bool) (a : Act) (w : World), I L a w → cntF L = fuel → wpAny P md ops Q fuel L a w := by
  intro fuel
  induction fuel with
  | zero =>
    intro L a w hI hc
    have hr : Region.ready md ops L = [] := by
      cases hr : Region.ready md ops L with
      | nil => rfl
      | cons i r =>
        have hi : i ∈ Region.ready md ops L := by rw [hr]; simp
        have := cntF_set (mem_ready.1 hi).1
        omega
    exact ⟨hr, hend L a w hI hr⟩
  | succ fuel ih =>
    intro L a w hI hc
    refine ⟨fun h0 => hend L a w hI h0, fun i hi => ?_⟩
    obtain ⟨hL, o, ho, _⟩ := mem_ready.1 hi
    have h := hstep L a w hI i hi (wpAny P md ops Q fuel (L.setIfInBounds i true)) (fun a' w' h' => ih _ a' w' h' (by have := cntF_set hL; omega)) o ho
    unfold wpOp
    simp only [ho]
    split
    · rename_i hw
      rw [if_pos hw] at h
      exact .inl h
    · rename_i hw
      rw [if_neg hw] at h
      exact h

theorem IntsV.setS {B : Nat} {w : World} {v : Value} {xs : List Int} (h : IntsV B w v xs) {p : Addr} {x : Value} (hp : w.cell? p = some x) (hx : ∀ n, x ≠ .int .i64 n) (u : Value) : IntsV B (w.setCell p u) v xs := by
  obtain ⟨a, cap, rfl, hc, hc2, hh⟩ := h
  refine ⟨a, cap, rfl, hc, hc2, fun i y hi => ?_⟩
  obtain ⟨b, off, rfl, hB, hcell⟩ := hh i y hi
  refine ⟨b, off, rfl, hB, ?_⟩
  rw [World.cell?_setCell_other _ _ _ _ (fun e => ?_)]
  · exact hcell
  · subst e
    rw [hp] at hcell
    exact hx y (Option.some.inj hcell)
theorem WordV.setS {B : Nat} {w : World} {v : Value} {hd lp : List Int} (h : WordV B w v hd lp) {p : Addr} {x : Value} (hp : w.cell? p = some x) (hx : ∀ n, x ≠ .int .i64 n) (u : Value) : WordV B (w.setCell p u) v hd lp := by
  obtain ⟨hv, lv, e, h1, h2⟩ := h
  exact ⟨hv, lv, e, h1.setS hp hx u, h2.setS hp hx u⟩
theorem WordV.new {w w' : World} {v : Value} {hd lp : List Int} (h : WordV w.heap.size w v hd lp) (hk : Kept (fun _ => False) w w') : WordV w'.heap.size w' v hd lp := (h.kept hk (Nat.le_refl _)).mono hk.size
theorem Box2.other {w : World} {b : Nat} {u v : Value} (h : Box2 w b u v) {p : Addr} (hp : p.block ≠ b) (x : Value) : Box2 (w.setCell p x) b u v := by
  obtain ⟨h1, h2, h3, h4, h5⟩ := h
  have hb : (w.setCell p x).heap[b]? = w.heap[b]? := Below.heap_setCell _ _ _ _ (fun e => hp e.symm)
  refine ⟨Nat.lt_of_lt_of_le h1 (by simp [World.setCell]), ?_, ?_, ?_, ?_⟩
  · rw [World.cell?_of_block (w := w) (a := ⟨b, 0, none⟩) hb]; exact h2
  · rw [World.cell?_of_block (w := w) (a := ⟨b, 1, none⟩) hb]; exact h3
  · rw [World.frozen?_of_block (w := w) (a := ⟨b, 0, none⟩) hb]; exact h4
  · rw [World.frozen?_of_block (w := w) (a := ⟨b, 1, none⟩) hb]; exact h5
theorem Box2.store {w : World} {b : Nat} {u v : Value} (h : Box2 w b u v) (x y : Value) : Box2 ((w.setCell ⟨b, 0, none⟩ x).setCell ⟨b, 1, none⟩ y) b x y := by
  obtain ⟨h1, h2, h3, h4, h5⟩ := h
  refine ⟨Nat.lt_of_lt_of_le h1 (by simp [World.setCell]), ?_, ?_, ?_, ?_⟩ <;> simp [go_sem, h2, h3, h4, h5]
end Go.Proofs.YtdbpdanocpfboabGreatDoor

/- Walks of package word: period. -/
namespace Go.Proofs.YtdbpdanocpfboabGreatDoor
open Go.RowKit

/-- n numbers at the beginning are those that end with i, too -/
def Bord (l : List Int) (i n : Nat) : Prop := n ≤ i ∧ ∀ t, t < n → l.getD t 0 = l.getD (i + 1 - n + t) 0
def MaxB (l : List Int) (i n : Nat) : Prop := Bord l i n ∧ ∀ m, Bord l i m → m ≤ n
theorem bord_zero (l : List Int) (i : Nat) : Bord l i 0 := ⟨Nat.zero_le _, fun t h => absurd h (by omega)⟩
theorem bord_up {l : List Int} {i m : Nat} (h : Bord l i m) (e : l.getD (i + 1) 0 = l.getD m 0) : Bord l (i + 1) (m + 1) := by
  obtain ⟨h1, h2⟩ := h
  refine ⟨by omega, fun t ht => ?_⟩
  by_cases htm : t < m
  · rw [h2 t htm]; congr 1; omega
  · have : t = m := by omega
    subst this
    rw [← e]; congr 1; omega
theorem bord_down {l : List Int} {i m : Nat} (h : Bord l (i + 1) (m + 1)) : Bord l i m ∧ l.getD (i + 1) 0 = l.getD m 0 := by
  obtain ⟨h1, h2⟩ := h
  refine ⟨⟨by omega, fun t ht => ?_⟩, ?_⟩
  · rw [h2 t (by omega)]; congr 1; omega
  · rw [h2 m (by omega)]; congr 1; omega
theorem bord_trans {l : List Int} {i n m : Nat} (h : Bord l i (n + 1)) (h' : Bord l n m) : Bord l i m := by
  obtain ⟨h1, h2⟩ := h
  obtain ⟨h3, h4⟩ := h'
  refine ⟨by omega, fun t ht => ?_⟩
  rw [h4 t ht, h2 (n + 1 - m + t) (by omega)]
  congr 1
  omega
theorem bord_in {l : List Int} {i n m : Nat} (h : Bord l i (n + 1)) (h' : Bord l i m) (hm : m < n + 1) : Bord l n m := by
  obtain ⟨h1, h2⟩ := h
  obtain ⟨h3, h4⟩ := h'
  refine ⟨by omega, fun t ht => ?_⟩
  rw [h4 t ht, h2 (n + 1 - m + t) (by omega)]
  congr 1
  omega
/-- while same[i+1] is looked for -/
def Look (l : List Int) (i n : Nat) : Prop := Bord l i n ∧ ∀ m, Bord l i m → l.getD (i + 1) 0 = l.getD m 0 → m ≤ n
theorem look_start {l : List Int} {i n : Nat} (h : MaxB l i n) : Look l i n := ⟨h.1, fun m hm _ => h.2 m hm⟩
theorem look_step {l : List Int} {i n n' : Nat} (h : Look l i (n + 1)) (hne : l.getD (i + 1) 0 ≠ l.getD (n + 1) 0) (h' : MaxB l n n') : Look l i n' :=
  ⟨bord_trans h.1 h'.1, fun m hm he => by
    have h1 := h.2 m hm he
    have h2 : m ≠ n + 1 := fun e => hne (by rw [← e]; exact he)
    exact h'.2 m (bord_in h.1 hm (by omega))⟩
theorem look_hit {l : List Int} {i n : Nat} (h : Look l i n) (he : l.getD (i + 1) 0 = l.getD n 0) : MaxB l (i + 1) (n + 1) :=
  ⟨bord_up h.1 he, fun m hm => by
    cases m with
    | zero => omega
    | succ m => have := bord_down hm; have := h.2 m this.1 this.2; omega⟩
theorem look_miss {l : List Int} {i : Nat} (h : Look l i 0) (he : l.getD (i + 1) 0 ≠ l.getD 0 0) : MaxB l (i + 1) 0 :=
  ⟨bord_zero _ _, fun m hm => by
    cases m with
    | zero => omega
    | succ m =>
      have h1 := bord_down hm
      have h2 := h.2 m h1.1 h1.2
      have : m = 0 := by omega
      subst this
      exact absurd h1.2 he⟩
theorem maxB_zero (l : List Int) : MaxB l 0 0 := ⟨bord_zero _ _, fun _ hm => hm.1⟩
theorem maxB_end {l : List Int} {n : Nat} (hl : 0 < l.length) (h : MaxB l (l.length - 1) n) : n < l.length ∧ LPer l (if l.length % (l.length - n) ≠ 0 then l.length else l.length - n) := by
  have hn := h.1.1
  refine ⟨by omega, shift_LPer (by omega) (by omega) (fun i hi hi' => ?_) (fun q hq hql hqp => ?_)⟩
  · have := h.1.2 (i - (l.length - n)) (by omega)
    rw [this]
    congr 1
    omega
  · have := h.2 (l.length - q) ⟨by omega, fun t ht => by
      rw [hqp (l.length - 1 + 1 - (l.length - q) + t) (by omega) (by omega)]
      congr 1
      omega⟩
    omega

theorem CRowI.drew {w0 w : World} {b n : Nat} {f : Nat → Int} (h : CRowI w0 w b n f) : CRowI w0 w.drew b n f := ⟨h.1.drew, h.2⟩

set_option maxHeartbeats 1000000 in
theorem period68 (w : World) (B : Nat) (v : Value) (l : List Int) (h : IntsV B w v l) (hB : B ≤ w.heap.size) (hl : 0 < l.length) (hl2 : l.length ≤ 20000) :
    Calls Tryz.prog 69 #[v] w fun e w' => Kept (fun _ => False) w w' ∧ ∃ P : Nat, e = .returned (.int .i64 (P : Int)) ∧ LPer l P := by
  obtain ⟨i0, hi, hz0, hz1, hz2⟩ := info_parts infoI
  have hmk : ∀ u : World, (Instr.makeSlice 23 (.int .i64 (l.length : Int)) (.int .i64 (l.length : Int))).run Tryz.prog u = .ok (.slice (some ⟨u.heap.size, 0, none⟩) l.length l.length) (u.alloc (.cells (madeCells #[.int .i64 0] l.length) 3)) := fun u => by
    have hh := run_make (P := Tryz.prog) u 23 3 i0 (.int .i64 0) Tryz.underlying23 hi hz0 .i64 .i64 (l.length : Int) (l.length : Int) (by omega) (Int.le_refl _) (by rw [hz2]; omega) (by omega)
    simpa [hz1, Value.cells] using hh
  rcases h.cases with ⟨rfl, _⟩ | ⟨_, b, off, cap, rfl, hcap, hcap2, hbB, hcell⟩
  · simp at hl
  have HC : Hid (∀ (wr : World), Kept (fun _ => False) w wr → ∀ i, i < l.length → wr.cell? ⟨b, off + i, none⟩ = some (.int .i64 (l.getD i 0))) := fun wr hk i hi => by
    rw [hk.cell (p := ⟨b, off + i, none⟩) (Nat.lt_of_lt_of_le hbB hB) (fun f => f), hcell i hi, List.getD_eq_getElem?_getD, List.getElem?_eq_getElem hi]
    rfl
  clear hcell h hi hz0 hz1 hz2
  go_enter Tryz.func69, Tryz.ntmps69
  go_wp2
  go_loopw [4, 5] (fun v4 _ wr => ∃ (i : Nat) (F : Nat → Nat), i < l.length ∧ v4 = .int .i64 ((i + 1 : Nat) : Int) ∧ CRowI w wr w.heap.size l.length (fun k => (F k : Int)) ∧ ∀ k, k ≤ i → MaxB l k (F k)) (fun v4 _ _ => l.length - (intOf v4).toNat)
  case atStart => exact ⟨0, fun _ => 0, hl, rfl, (CRowI.start w l.length).congr (fun i hi => rfl), fun k hk => by rw [Nat.le_zero.1 hk]; exact maxB_zero l⟩
  case round =>
    obtain ⟨i, F, hil, rfl, hcr, hF⟩ := hrel
    clear hmk
    by_cases hlt : i + 1 < l.length
    · have hlti : ((i + 1 : Nat) : Int) < (l.length : Int) := by omega
      have e1 : (((i + 1 : Nat) : Int) - 1) = (i : Int) := by omega
      have hci := (hcr.2.2 i hil).1
      have HL : Hid (Look l i (F i)) := look_start (hF i (Nat.le_refl _))
      have HF : Hid (∀ k, k ≤ i → MaxB l k (F k)) := hF
      have HCR : Hid (CRowI w wr w.heap.size l.length (fun k => (F k : Int))) := hcr
      clear hcr hF
      go_wp2
      go_loopw [5] (fun v5 wq => ∃ n : Nat, v5 = .int .i64 (n : Int) ∧ Look l i n ∧ CRowI w wq w.heap.size l.length (fun k => (F k : Int))) (fun v5 _ => (intOf v5).toNat)
      case atStart => exact ⟨F i, rfl, HL.out, HCR.out⟩
      case round =>
        obtain ⟨n, rfl, hlook, hcr⟩ := hrel
        have hn := hlook.1.1
        have cI := HC.out _ hcr.1 (i + 1) hlt
        have cN := HC.out _ hcr.1 n (by omega)
        have HLK : Hid (Look l i n) := hlook
        have hnl : (n : Int) < (l.length : Int) := by omega
        by_cases he : l.getD (i + 1) 0 = l.getD n 0
        · have HHit : Hid (MaxB l (i + 1) (n + 1)) := look_hit hlook he
          obtain ⟨hcS, hfS⟩ := hcr.2.2 (i + 1) hlt
          have HCR2 : Hid _ := hcr
          rw [he] at cI
          generalize l.getD n 0 = y at *
          clear he hlook hcr
          by_cases hz : n = 0
          · subst hz
            rw [Nat.add_zero] at cN
            have hlt2 : (i : Int) + 1 < (l.length : Int) := by omega
            go_wp2
            go_region
            go_wp2
            go_region
            go_wp2
            go_roundw
            case rel => exact ⟨i + 1, fun k => if k = i + 1 then 0 + 1 else F k, hlt, by go_num, CRowI.put (CRowI.drew (CRowI.drew HCR2.out)) hlt (fun k hk => by by_cases e : k = i + 1 <;> simp [e]), fun k hk => by
              by_cases e : k = i + 1
              · simp only [e, if_true]; exact HHit.out
              · simp only [e, if_false]; exact HF.out k (by omega)⟩
            case measure => simp [intOf]; omega
          · have hpos : (0 : Int) < (n : Int) := by omega
            have hposn : 0 < n := by omega
            have hlt2 : (i : Int) + 1 < (l.length : Int) := by omega
            go_wp2
            go_region
            go_wp2
            go_region
            go_wp2
            go_roundw
            case rel => exact ⟨i + 1, fun k => if k = i + 1 then n + 1 else F k, hlt, by go_num, CRowI.put (CRowI.drew (CRowI.drew HCR2.out)) hlt (fun k hk => by by_cases e : k = i + 1 <;> simp [e]), fun k hk => by
              by_cases e : k = i + 1
              · simp only [e, if_true]; exact HHit.out
              · simp only [e, if_false]; exact HF.out k (by omega)⟩
            case measure => simp [intOf]; omega
        · have heb : (l.getD (i + 1) 0 == l.getD n 0) = false := by simpa using he
          have hnb : (l.getD (i + 1) 0 != l.getD n 0) = true := by simpa using he
          obtain ⟨hcS, hfS⟩ := hcr.2.2 (i + 1) hlt
          have HCR2 : Hid (CRowI w wr w.heap.size l.length (fun k => (F k : Int))) := hcr
          have hlt2 : (i : Int) + 1 < (l.length : Int) := by omega
          by_cases hz : n = 0
          · subst hz
            have HMiss : Hid (MaxB l (i + 1) 0) := look_miss hlook he
            rw [Nat.add_zero] at cN
            generalize l.getD (i + 1) 0 = x at *
            generalize l.getD 0 0 = y at *
            clear hlook hcr
            go_wp2
            go_region
            go_wp2
            go_region
            go_wp2
            go_roundw
            case rel => exact ⟨i + 1, fun k => if k = i + 1 then 0 else F k, hlt, by go_num, CRowI.put (CRowI.drew (CRowI.drew HCR2.out)) hlt (fun k hk => by by_cases e : k = i + 1 <;> simp [e]), fun k hk => by
              by_cases e : k = i + 1
              · simp only [e, if_true]; exact HMiss.out
              · simp only [e, if_false]; exact HF.out k (by omega)⟩
            case measure => simp [intOf]; omega
          · obtain ⟨n', rfl⟩ : ∃ n', n = n' + 1 := ⟨n - 1, by omega⟩
            have hmb := HF.out n' (by omega)
            have HStep : Hid (Look l i (F n')) := look_step hlook he hmb
            have hle : F n' ≤ n' := hmb.1.1
            have hcn := (hcr.2.2 n' (by omega)).1
            have e2 : (((n' + 1 : Nat) : Int) - 1) = (n' : Int) := by omega
            have hpos : (0 : Int) < ((n' + 1 : Nat) : Int) := by omega
            have hnl2 : (n' : Int) < (l.length : Int) := by omega
            have hnl3 : (n' : Int) + 1 < (l.length : Int) := by omega
            generalize l.getD (i + 1) 0 = x at *
            generalize l.getD (n' + 1) 0 = y at *
            clear hlook hcr
            go_wp2
            go_region
            go_wp2
            go_roundw
            case rel => exact ⟨F n', by go_num, HStep.out, CRowI.drew HCR2.out⟩
            case measure => simp [intOf]; omega
    · have hlen : l.length = i + 1 := by omega
      have hc1 : wr.cell? ⟨w.heap.size, i, none⟩ = some (.int .i64 (F i : Int)) := (hcr.2.2 i hil).1
      have hmb := hF i (Nat.le_refl _)
      have hend := maxB_end hl (by rw [hlen]; exact hmb)
      have HK : Hid _ := hcr.1
      have e1 : ((l.length : Int) - 1) = (i : Int) := by omega
      have hili : (i : Int) < (l.length : Int) := by omega
      have HLEN : Hid _ := hlen
      clear hlen hF hmb hcr
      have hlti : ¬ (i : Int) + 1 < (l.length : Int) := by omega
      obtain ⟨n, hFn⟩ : ∃ n, n = F i := ⟨_, rfl⟩
      rw [← hFn] at hc1 hend
      clear hFn
      have hsub : ((l.length : Int) - (n : Int)) = ((l.length - n : Nat) : Int) := by omega
      have hnz : ¬ ((l.length - n : Nat) : Int) = 0 := by omega
      have hnz2 : ¬ (l.length - n : Nat) = 0 := by omega
      have hmod : (l.length : Int).tmod ((l.length - n : Nat) : Int) = ((l.length % (l.length - n) : Nat) : Int) := by
        rw [Int.tmod_eq_emod_of_nonneg (by omega)]
        rfl
      by_cases hm : l.length % (l.length - n) = 0
      · rw [hm] at hmod
        have HE : Hid (LPer l (l.length - n)) := by
          have := hend.2
          rwa [if_neg (by omega)] at this
        have HM : Hid _ := hm
        clear hend hm
        generalize hq : l.length - n = q at *
        have HQ : Hid _ := hq
        clear hq
        go_wp2
        go_ret
        exact ⟨HK.out, _, rfl, HE.out⟩
      · have HE : Hid (LPer l l.length) := by
          have := hend.2
          rwa [if_pos (by omega)] at this
        clear hend
        generalize hq : l.length - n = q at *
        have HQ : Hid _ := hq
        clear hq
        go_wp2
        go_ret
        exact ⟨HK.out, _, rfl, HE.out⟩
end Go.Proofs.YtdbpdanocpfboabGreatDoor
