import Derived.Test.YtdbpdanocpfboabGreatDoorZRf
import Derived.Laws.BitsLemmas
import Derived.Test.YtdbpdanocpfboabGreatDoorZGiven
/- The document's Good and Print. -/
namespace Go.Proofs.YtdbpdanocpfboabGreatDoor
open Go.RowKit

theorem ModV.kept {B : Nat} {w w' : World} {v : Value} {m : MD} (h : ModV B w v m) (hk : Kept (fun _ => False) w w') (hB : B ≤ w.heap.size) : ModV B w' v m := by
  obtain ⟨nv, lv, tv, e, hn, hl, rs, hr, ht, hi⟩ := h.ex
  exact ⟨nv, lv, tv, e, LsV.kept hn hk hB, hl.below (hk.below hB (fun _ f => f.elim)), rs, hr, ht.kept hk hB, fun i r row h1 h2 => (hi i r row h1 h2).below (hk.below hB (fun _ f => f.elim))⟩
def goodM (m : MD) : Bool := fitsB m && decide (((textM m).size : Int) - 1 ≤ 1000)
def printM (m : MD) : ByteArray := if goodM m = true then textM m else nil
theorem textM_size {m : MD} (h : FitsP m) : (textM m).size ≤ 1224 := by
  have := textA_size h m.names.length
  have := h.n12
  unfold textM
  omega

set_option maxRecDepth 100000 in
set_option maxHeartbeats 1000000 in
theorem good19 (w : World) (B : Nat) (v : Value) (m : MD) (hm : ModV B w v m) (hB : B ≤ w.heap.size) (hsz : ∀ x ∈ m.names, x.size ≤ 9223372036854775807) : Calls Tryz.prog 19 #[v] w fun e w' => Kept (fun _ => False) w w' ∧ e = .returned (.bool (goodM m)) := by
  obtain ⟨nv, lv, tv, rfl, hn, hl, ht⟩ := hm.ex
  obtain ⟨W0, hW0⟩ : ∃ W0, W0 = w.alloc (.cells #[nv, lv, tv] 30) := ⟨_, rfl⟩
  have k0 : Kept (fun _ => False) w W0 := by rw [hW0]; exact (Kept.refl _ _).alloc _
  have b0 : W0.heap[w.heap.size]? = some (.cells #[nv, lv, tv] 30 (0, 0)) := by rw [hW0]; exact alloc_blk _ _
  have HBX : Hid (∀ W, Kept (fun _ => False) W0 W → W.cell? ⟨w.heap.size, 0, none⟩ = some nv ∧ W.cell? ⟨w.heap.size, 1, none⟩ = some lv ∧ W.cell? ⟨w.heap.size, 2, none⟩ = some tv) := fun W hk =>
    ⟨(hk.cell (p := ⟨w.heap.size, 0, none⟩) (lt_of_cell (blk_cell b0 0)) (fun f => f)).trans (blk_cell b0 0), (hk.cell (p := ⟨w.heap.size, 1, none⟩) (lt_of_cell (blk_cell b0 1)) (fun f => f)).trans (blk_cell b0 1), (hk.cell (p := ⟨w.heap.size, 2, none⟩) (lt_of_cell (blk_cell b0 2)) (fun f => f)).trans (blk_cell b0 2)⟩
  have HM : Hid (∀ W, Kept (fun _ => False) W0 W → ModV B W (.agg #[nv, lv, tv]) m) := fun W hk => hm.kept (k0.trans hk (fun _ _ f => f)) hB
  have hB0 : B ≤ W0.heap.size := Nat.le_trans hB k0.size
  have HSZ : Hid (∀ x ∈ m.names, x.size ≤ 9223372036854775807) := hsz
  obtain ⟨x0, x1, x2⟩ := HBX.out W0 (Kept.refl _ _)
  clear hm hn hl ht b0 hsz
  go_enter Tryz.func19, Tryz.ntmps19
  go_upto_region 1 with fail
  rw [← hW0]
  clear hW0
  cases hf : fitsB m with
  | false =>
    have HE : Hid (goodM m = false) := by rw [Hid, goodM, hf]; rfl
    go_wp2_with (go_at_call 39; go_must (refine (fits39 W0 B _ m (HM.out W0 (Kept.refl _ _)) hB0 HSZ.out).mono ?_); rintro e w1 ⟨k1, rfl⟩; rw [hf])
    go_ret
    exact ⟨k0.trans k1 (fun _ _ f => f), ret_bool HE.out.symm⟩
  | true =>
    have HP := (fitsB_iff m).1 hf
    have HE : Hid (goodM m = decide (((textM m).size : Int) - 1 ≤ 1000)) := by rw [Hid, goodM, hf]; rfl
    have hts := textM_size HP
    have HP2 : Hid (FitsP m) := HP
    clear HP
    go_upto_region 3 with (go_at_call 39; go_must (refine (fits39 W0 B _ m (HM.out W0 (Kept.refl _ _)) hB0 HSZ.out).mono ?_); rintro e w1 ⟨k1, rfl⟩; rw [hf])
    clear x0 x1 x2
    obtain ⟨x0, x1, x2⟩ := HBX.out w1 k1
    have hB1 := Nat.le_trans hB0 k1.size
    go_wp2_with (go_at_call 36; go_must (refine (text36 w1 B _ m (HM.out w1 k1) HP2.out hB1).mono ?_); rintro e w2 ⟨k2, rfl⟩)
    go_ret
    exact ⟨(k0.trans k1 (fun _ _ f => f)).trans k2 (fun _ _ f => f), ret_bool HE.out.symm⟩

set_option maxRecDepth 100000 in
set_option maxHeartbeats 1000000 in
theorem print12 (w : World) (B : Nat) (v : Value) (m : MD) (hm : ModV B w v m) (hB : B ≤ w.heap.size) (hsz : ∀ x ∈ m.names, x.size ≤ 9223372036854775807) : Calls Tryz.prog 12 #[v] w fun e w' => Kept (fun _ => False) w w' ∧ e = .returned (.string (printM m)) := by
  obtain ⟨nv, lv, tv, rfl, hn, hl, ht⟩ := hm.ex
  obtain ⟨W0, hW0⟩ : ∃ W0, W0 = w.alloc (.cells #[nv, lv, tv] 30) := ⟨_, rfl⟩
  have k0 : Kept (fun _ => False) w W0 := by rw [hW0]; exact (Kept.refl _ _).alloc _
  have b0 : W0.heap[w.heap.size]? = some (.cells #[nv, lv, tv] 30 (0, 0)) := by rw [hW0]; exact alloc_blk _ _
  have HBX : Hid (∀ W, Kept (fun _ => False) W0 W → W.cell? ⟨w.heap.size, 0, none⟩ = some nv ∧ W.cell? ⟨w.heap.size, 1, none⟩ = some lv ∧ W.cell? ⟨w.heap.size, 2, none⟩ = some tv) := fun W hk =>
    ⟨(hk.cell (p := ⟨w.heap.size, 0, none⟩) (lt_of_cell (blk_cell b0 0)) (fun f => f)).trans (blk_cell b0 0), (hk.cell (p := ⟨w.heap.size, 1, none⟩) (lt_of_cell (blk_cell b0 1)) (fun f => f)).trans (blk_cell b0 1), (hk.cell (p := ⟨w.heap.size, 2, none⟩) (lt_of_cell (blk_cell b0 2)) (fun f => f)).trans (blk_cell b0 2)⟩
  have HM : Hid (∀ W, Kept (fun _ => False) W0 W → ModV B W (.agg #[nv, lv, tv]) m) := fun W hk => hm.kept (k0.trans hk (fun _ _ f => f)) hB
  have hB0 : B ≤ W0.heap.size := Nat.le_trans hB k0.size
  have HSZ : Hid (∀ x ∈ m.names, x.size ≤ 9223372036854775807) := hsz
  obtain ⟨x0, x1, x2⟩ := HBX.out W0 (Kept.refl _ _)
  clear hm hn hl ht b0 hsz
  go_enter Tryz.func12, Tryz.ntmps12
  go_upto_region 1 with fail
  rw [← hW0]
  clear hW0
  cases hf : goodM m with
  | false =>
    have HE : Hid (printM m = ⟨#[]⟩) := by rw [Hid, printM, hf]; rfl
    go_wp2_with (go_at_call 19; go_must (refine (good19 W0 B _ m (HM.out W0 (Kept.refl _ _)) hB0 HSZ.out).mono ?_); rintro e w1 ⟨k1, rfl⟩; rw [hf])
    go_ret
    exact ⟨k0.trans k1 (fun _ _ f => f), by rw [HE.out]; rfl⟩
  | true =>
    have HP : Hid (FitsP m) := by
      have : fitsB m = true := by simp only [goodM, Bool.and_eq_true] at hf; exact hf.1
      exact (fitsB_iff m).1 this
    have HE : Hid (printM m = textM m) := by rw [Hid, printM, hf]; rfl
    go_upto_region 3 with (go_at_call 19; go_must (refine (good19 W0 B _ m (HM.out W0 (Kept.refl _ _)) hB0 HSZ.out).mono ?_); rintro e w1 ⟨k1, rfl⟩; rw [hf])
    clear x0 x1 x2
    obtain ⟨x0, x1, x2⟩ := HBX.out w1 k1
    have hB1 := Nat.le_trans hB0 k1.size
    go_wp2_with (go_at_call 36; go_must (refine (text36 w1 B _ m (HM.out w1 k1) HP.out hB1).mono ?_); rintro e w2 ⟨k2, rfl⟩)
    go_ret
    exact ⟨(k0.trans k1 (fun _ _ f => f)).trans k2 (fun _ _ f => f), by rw [HE.out]; rfl⟩
end Go.Proofs.YtdbpdanocpfboabGreatDoor

/- A whole list is laid behind one of one's own. -/
namespace Go.Proofs.YtdbpdanocpfboabGreatDoor
open Go.RowKit Go.Shelf

theorem run_append_none {P : Program} (w : World) (base : Nat) (t ty e : TypeId) (i : TypeInfo) (size : Nat) (ht : P.underlying t = some (.slice e)) (hi : P.info? e = some i)
    (v : Value) (n c : Nat) (xs : List Value) (hown : w.ownsRow base e size v n xs) :
    (Builtin.append_ #[t, t] ty #[v, .slice none 0 c]).run P w = .ok v w := by
  rcases hown.2 with ⟨rfl, rfl⟩ | ⟨g, cap, cur, rfl, _, _, hnc, _⟩
  · simp [Builtin.append_, run_underlying ht, sizeOf, typeInfo, hi, Builtin.lenOf, Builtin.firstCells]
  · simp [Builtin.append_, run_underlying ht, sizeOf, typeInfo, hi, Builtin.lenOf, Builtin.firstCells, hnc, storeCells]
theorem add_at (b o j : Nat) : (⟨b, o, none⟩ : Addr).add j = ⟨b, o + j, none⟩ := by
  unfold Addr.add
  by_cases h0 : j = 0
  · subst h0; simp
  · simp [h0]
theorem wpList_append_ls {P : Program} {w : World} {ops : Array Oper} {rest : List Oper} {o : Oper} {a : Act} {Q : Exit → Act → World → Prop} (hgd : o.guard = none) (s x : Operand) (t : TypeId)
    (ho : o.op = .call { callee := .builtin .append, args := #[s, x], argTypes := #[t, t] })
    (base : Nat) (e : TypeId) (i : TypeInfo) (z : Value) (bytes : Nat) (ht : P.underlying t = some (.slice e)) (hi : P.info? e = some i) (hz : i.zero = some z)
    (hsize : i.size = 1) (hby : i.bytes = bytes) (hzs : z.cells.size = 1)
    (v : Value) (n : Nat) (xs : List Value) (hs : a.eval s = v) (hown : w.ownsRow base e 1 v n xs)
    (B : Nat) (u : Value) (cs : List Value) (hx : a.eval x = u) (hu : LsV B w u cs) (h1 : ∀ c ∈ cs, c.oneCell' = true)
    (h63 : n + cs.length ≤ maxLen) (hbytes : (n + cs.length) * bytes ≤ 140737488355328) (hbase : base ≤ w.heap.size)
    (h : ∀ v' w', w'.ownsRow base e 1 v' (n + cs.length) (xs ++ cs) → Kept (fun b => inRow v b) w w' → (v'.ownBlock = v.ownBlock ∨ v'.ownBlock = some w.heap.size) → wpList P ops Q rest (a.put o.dst v') w') :
    wpList P ops Q (o :: rest) a w := by
  obtain ⟨ad, cap, rfl, _, _, hc⟩ := hu
  cases ad with
  | none =>
    have hcs : cs = [] := by
      cases cs with
      | nil => rfl
      | cons y r => obtain ⟨_, _, e, _⟩ := hc 0 y rfl; cases e
    subst hcs
    refine wpList_append_run hgd s x t t ho v (.slice none 0 cap) hs hx (fun ty => run_append_none w base t ty e i 1 ht hi v n cap xs hown) ?_
    exact h v w (by simpa using hown) (Kept.refl _ _) (.inl rfl)
  | some ad =>
    refine wpList_append_own_at w hgd s x t ho base e i z 1 bytes ht hi hz hsize hby hzs (by decide) v n xs hs hown ad cs.length cap cs hx (by simp) (fun j c hj => ?_) h1 h63 hbytes hbase (fun v' w' g1 g2 _ g4 => h v' w' g1 ((Kept.refl _ _).grown g2 (fun k _ e => e)) g4)
    obtain ⟨b, off, e', _, hcell⟩ := hc j c hj
    injection e' with e'
    subst e'
    rw [add_at]
    exact hcell

/-! ### paths -/
def stepB (m : MD) (s t : Int) : Bool := (m.tos.getD s.toNat []).any (fun x => decide (x = t))
def chainB (m : MD) : Int → List Int → Bool
  | _, [] => true
  | s, t :: r => stepB m s t && chainB m t r
def startB (m : MD) : List Int → Bool
  | [] => false
  | x :: r => decide (x = 0) && chainB m x r
def pathM (m : MD) (hd lp : List Int) : Bool := goodM m && (!lp.isEmpty && (decide (hd.length + lp.length ≤ 20000) && startB m (hd ++ lp ++ lp.take 1)))
theorem stepB_mem {m : MD} {s t : Int} : stepB m s t = true ↔ t ∈ m.tos.getD s.toNat [] := by
  simp [stepB]
theorem stepB_rng {m : MD} (h : FitsP m) {s t : Int} (hs : stepB m s t = true) : 0 ≤ t ∧ t < m.names.length := by
  rw [stepB_mem] at hs
  by_cases hk : s.toNat < m.tos.length
  · rw [getD_at hk] at hs
    exact h.rng _ (List.getElem_mem hk) t hs
  · simp only [List.getD_eq_getElem?_getD, List.getElem?_eq_none (Nat.le_of_not_lt hk), Option.getD_none] at hs
    cases hs
/-- a chain, step by step -/
theorem chain_at (m : MD) : ∀ (s : Int) (r : List Int), chainB m s r = true ↔ ∀ i (h : i < r.length), stepB m ((s :: r)[i]'(by simp; omega)) r[i] = true
  | s, [] => by simp [chainB]
  | s, t :: r => by
    rw [chainB, Bool.and_eq_true, chain_at m t r]
    constructor
    · rintro ⟨h1, h2⟩ i hi
      cases i with
      | zero => exact h1
      | succ i => exact h2 i (by simpa using hi)
    · intro h
      exact ⟨h 0 (by simp), fun i hi => h (i + 1) (by simpa using hi)⟩
theorem start_at (m : MD) (l : List Int) (hl : 0 < l.length) : startB m l = true ↔ l[0] = 0 ∧ ∀ i (h : i + 1 < l.length), stepB m l[i] l[i + 1] = true := by
  cases l with
  | nil => simp at hl
  | cons x r =>
    rw [startB, Bool.and_eq_true, decide_eq_true_eq, chain_at]
    simp
end Go.Proofs.YtdbpdanocpfboabGreatDoor

/- States as bits: the math of the program's follows. -/
namespace Go.Proofs.YtdbpdanocpfboabGreatDoor
open Go.RowKit

/-- the states of a row as bits -/
def maskL (r : List Int) : Nat := r.foldl (fun a t => a ||| 2 ^ t.toNat) 0
theorem maskL_snoc (r : List Int) (t : Int) : maskL (r ++ [t]) = maskL r ||| 2 ^ t.toNat := by simp [maskL]
theorem mask_bit_from (i : Nat) : ∀ (r : List Int) (a : Nat), (r.foldl (fun a t => a ||| 2 ^ t.toNat) a).testBit i = (a.testBit i || r.any (fun t => decide (t.toNat = i)))
  | [], a => by simp
  | t :: r, a => by
    rw [List.foldl_cons, mask_bit_from i r, Nat.testBit_or, Nat.testBit_two_pow, List.any_cons, Bool.or_assoc]
theorem maskL_bit (r : List Int) (i : Nat) : (maskL r).testBit i = r.any (fun t => decide (t.toNat = i)) := by
  rw [maskL, mask_bit_from]
  simp
theorem mask_lt_from : ∀ (r : List Int) (a : Nat), a < 4096 → (∀ t ∈ r, t.toNat < 12) → r.foldl (fun a t => a ||| 2 ^ t.toNat) a < 4096
  | [], a, h, _ => h
  | t :: r, a, h, hr => by
    rw [List.foldl_cons]
    refine mask_lt_from r _ ?_ (fun u hu => hr u (List.mem_cons_of_mem _ hu))
    have h1 : 2 ^ t.toNat < 2 ^ 12 := Nat.pow_lt_pow_right (by decide) (hr t (List.mem_cons_self ..))
    exact Nat.or_lt_two_pow (n := 12) h h1
theorem maskL_lt (r : List Int) (hr : ∀ t ∈ r, t.toNat < 12) : maskL r < 4096 := mask_lt_from r 0 (by decide) hr
def maskM (m : MD) (s : Int) : Nat := maskL (m.tos.getD s.toNat [])
theorem maskM_lt {m : MD} (h : FitsP m) (s : Int) : maskM m s < 4096 := by
  refine maskL_lt _ (fun t ht => ?_)
  have := stepB_rng h (s := s) (t := t) (stepB_mem.2 ht)
  have := h.n12
  omega
theorem maskM_bit {m : MD} (h : FitsP m) (s t : Int) (ht : 0 ≤ t) : (maskM m s).testBit t.toNat = stepB m s t := by
  rw [maskM, maskL_bit, stepB]
  apply Bool.eq_iff_iff.2
  simp only [List.any_eq_true, decide_eq_true_eq]
  constructor
  · rintro ⟨x, hx, e⟩
    have := (stepB_rng h (s := s) (t := x) (stepB_mem.2 hx)).1
    exact ⟨x, hx, by omega⟩
  · rintro ⟨x, hx, e⟩
    exact ⟨x, hx, by rw [e]⟩
/-- the bit of t in a mask, as the program asks for it -/
theorem bit_ask (y t : Nat) : (y / 2 ^ t % 2 = 0) ↔ y.testBit t = false := by
  rw [Nat.testBit_eq_decide_div_mod_eq]
  simp
/-- a mask, then states: each a bit of the mask that stands, which is then that state's -/
def runM (m : MD) : Nat → List Int → Option Nat
  | y, [] => some y
  | y, t :: r => if y.testBit t.toNat = true then runM m (maskM m t) r else none
theorem runM_app (m : MD) : ∀ (a : List Int) (y : Nat) (b : List Int), runM m y (a ++ b) = (runM m y a).bind (fun z => runM m z b)
  | [], y, b => rfl
  | t :: a, y, b => by
    rw [List.cons_append, runM, runM]
    split
    · exact runM_app m a _ b
    · rfl
theorem runM_chain {m : MD} (h : FitsP m) : ∀ (r : List Int) (s : Int), (∀ t ∈ r, 0 ≤ t) → (runM m (maskM m s) r).isSome = chainB m s r
  | [], s, _ => rfl
  | t :: r, s, hr => by
    have h0 : 0 ≤ t := hr t (List.mem_cons_self ..)
    rw [runM, chainB, maskM_bit h s t h0]
    cases stepB m s t with
    | true =>
      rw [if_pos rfl, Bool.true_and]
      exact runM_chain h r t (fun u hu => hr u (List.mem_cons_of_mem _ hu))
    | false => simp
theorem runM_start {m : MD} (h : FitsP m) (l : List Int) (hl : l ≠ []) (hr : ∀ t ∈ l, 0 ≤ t) : (runM m 1 l).isSome = startB m l := by
  cases l with
  | nil => exact absurd rfl hl
  | cons x r =>
    have h0 : 0 ≤ x := hr x (List.mem_cons_self ..)
    have hx : (1 : Nat).testBit x.toNat = decide (x = 0) := by
      have h2 := Nat.testBit_two_pow (n := 0) (m := x.toNat)
      rw [Nat.pow_zero] at h2
      rw [h2, decide_eq_decide]
      omega
    rw [runM, startB, hx]
    by_cases e : x = 0
    · rw [decide_eq_true e, if_pos rfl, Bool.true_and]
      exact runM_chain h r x (fun u hu => hr u (List.mem_cons_of_mem _ hu))
    · rw [decide_eq_false e]
      simp
theorem runM_lt {m : MD} (h : FitsP m) : ∀ (l : List Int) (y z : Nat), y < 4096 → runM m y l = some z → z < 4096
  | [], y, z, hy, e => by cases e; exact hy
  | t :: r, y, z, hy, e => by
    rw [runM] at e
    split at e
    · exact runM_lt h r _ z (maskM_lt h t) e
    · cases e
theorem or_mask (a b : Nat) (ha : a < 4096) (hb : b < 4096) : bits BinOp.or IntKind.i64 (a : Int) (b : Int) = ((a ||| b : Nat) : Int) :=
  (bits_nat .i64 12 (by decide) (fun n h0 h1 => by rw [IntKind.wrap_i64]; omega) a b ha hb).2
theorem and_mask (a : Nat) (ha : a < 4096) : bits BinOp.and IntKind.i64 (a : Int) 1 = ((a % 2 : Nat) : Int) := by
  have h := (bits_nat .i64 12 (by decide) (fun n h0 h1 => by rw [IntKind.wrap_i64]; omega) a 1 ha (by decide)).1
  rw [Nat.and_one_is_mod] at h
  exact h

/-- a row of numbers of one's own -/
def CRow (w0 w : World) (b n : Nat) (f : Nat → Nat) : Prop :=
  Kept (fun _ => False) w0 w ∧ w0.heap.size ≤ b ∧ ∀ i, i < n → w.cell? ⟨b, i, none⟩ = some (.int .i64 (f i)) ∧ w.frozen? ⟨b, i, none⟩ = false
theorem CRow.kept {w0 w w' : World} {b n : Nat} {f : Nat → Nat} (h : CRow w0 w b n f) (hk : Kept (fun _ => False) w w') : CRow w0 w' b n f := by
  obtain ⟨h1, h2, h3⟩ := h
  refine ⟨h1.trans hk (fun _ _ f => f), h2, fun i hi => ?_⟩
  have hl := lt_of_cell (h3 i hi).1
  rw [hk.cell (p := ⟨b, i, none⟩) hl (fun f => f), hk.frozen (p := ⟨b, i, none⟩) hl (fun f => f)]
  exact h3 i hi
theorem cell_set_row {w : World} {b k : Nat} (h : (w.cell? ⟨b, k, none⟩).isSome = true) (v : Value) (j : Nat) : (w.setCell ⟨b, k, none⟩ v).cell? ⟨b, j, none⟩ = if j = k then some v else w.cell? ⟨b, j, none⟩ := by
  by_cases e : j = k
  · subst e; rw [World.cell?_setCell_same' _ _ _ h]; simp
  · rw [World.cell?_setCell_other _ _ _ _ (by simp)]; simp [e]
theorem cell_made {w : World} (z : Value) (n : Nat) (t : TypeId) {j : Nat} (hj : j < n) : (w.alloc (.cells (madeCells #[z] n) t)).cell? ⟨w.heap.size, j, none⟩ = some z := by
  rw [World.cell?_alloc_new, ← Array.getElem?_toList, toList_madeCells_one]
  simp [hj]
theorem CRow.put {w0 w : World} {b n : Nat} {f g : Nat → Nat} (h : CRow w0 w b n f) {k : Nat} (hk : k < n) {v : Nat} (hg : ∀ i, i < n → g i = if i = k then v else f i) : CRow w0 (w.setCell ⟨b, k, none⟩ (.int .i64 v)) b n g := by
  obtain ⟨h1, h2, h3⟩ := h
  refine ⟨h1.setCell (fun hh => by simp at hh; omega) _, h2, fun i hi => ?_⟩
  rw [cell_set_row (by rw [(h3 k hk).1]; rfl), World.frozen?_setCell, hg i hi]
  refine ⟨?_, (h3 i hi).2⟩
  split
  · rfl
  · exact (h3 i hi).1
theorem CRow.congr {w0 w : World} {b n : Nat} {f g : Nat → Nat} (h : CRow w0 w b n f) (hg : ∀ i, i < n → g i = f i) : CRow w0 w b n g :=
  ⟨h.1, h.2.1, fun i hi => by rw [hg i hi]; exact h.2.2 i hi⟩
theorem CRow.start (w : World) (n : Nat) : CRow w (w.alloc (.cells (madeCells #[.int .i64 0] n) 3)) w.heap.size n (fun _ => 0) :=
  ⟨(Kept.refl _ _).alloc _, Nat.le_refl _, fun i hi => ⟨(cell_made _ _ _ hi).trans (by simp), by simp⟩⟩
theorem CRow.drew {w0 w : World} {b n : Nat} {f : Nat → Nat} (h : CRow w0 w b n f) : CRow w0 w.drew b n f := ⟨h.1.drew, h.2⟩
def preL (L : Nat → List Int) : Nat → List Int
  | 0 => []
  | q + 1 => preL L q ++ L q
theorem preL_split (L : Nat → List Int) : ∀ (n q : Nat), q ≤ n → ∃ r, preL L n = preL L q ++ r
  | 0, q, h => ⟨[], by have : q = 0 := by omega
                       subst this; simp⟩
  | n + 1, q, h => by
    by_cases e : q = n + 1
    · subst e; exact ⟨[], by simp⟩
    · obtain ⟨r, hr⟩ := preL_split L n q (by omega)
      exact ⟨r ++ L n, by rw [preL, hr, List.append_assoc]⟩
end Go.Proofs.YtdbpdanocpfboabGreatDoor

/- The law's Same of two models that are alike. -/
namespace Go.Proofs.YtdbpdanocpfboabGreatDoor
open Go.RowKit

set_option maxRecDepth 100000 in
set_option maxHeartbeats 1000000 in
theorem num9 (w : World) (x : Int) : Calls Tryz.prog 9 #[.int .i64 x] w fun e w' => e = .returned (.int .i64 x) ∧ w' = w := by
  go_enter Tryz.func9, Tryz.ntmps9
  go_wp2
  go_ret
  exact ⟨rfl, rfl⟩

set_option maxRecDepth 100000 in
set_option maxHeartbeats 4000000 in
theorem same8 (w : World) (B C : Nat) (v v' : Value) (m : MD) (hm : ModV B w v m) (hm' : ModV C w v' m) (hB : B ≤ w.heap.size) (hC : C ≤ w.heap.size) :
    Calls Tryz.prog 8 #[v, v'] w fun e w' => Kept (fun _ => False) w w' ∧ e = .returned (.bool true) := by
  obtain ⟨nv, lv, tv, rfl, hn, hl, rs, hrl, ht, hr⟩ := id hm.ex
  obtain ⟨nv', lv', tv', rfl, hn', hl', rs', hrl', ht', hr'⟩ := id hm'.ex
  obtain ⟨na, nc, rfl, hnl⟩ := hn.form
  obtain ⟨na', nc', rfl, _⟩ := hn'.form
  obtain ⟨ta, tc, rfl, htl⟩ := ht.form
  obtain ⟨ta', tc', rfl, _⟩ := ht'.form
  rw [hrl] at ht hm htl
  rw [hrl'] at ht' hm'
  rw [hrl, hrl']
  obtain ⟨W0, hW0⟩ : ∃ W0, (w.alloc (.cells #[.slice na m.names.length nc, lv, .slice ta m.tos.length tc] 26)).alloc (.cells #[.slice na' m.names.length nc', lv', .slice ta' m.tos.length tc'] 30) = W0 := ⟨_, rfl⟩
  have k0 : Kept (fun _ => False) w W0 := by rw [← hW0]; exact ((Kept.refl _ _).alloc _).alloc _
  have b0 : W0.heap[w.heap.size]? = some (.cells #[.slice na m.names.length nc, lv, .slice ta m.tos.length tc] 26 (0, 0)) := by rw [← hW0]; exact (Below.heap_alloc _ _ _ (by simp)).trans (alloc_blk _ _)
  have b1 : W0.heap[w.heap.size + 1]? = some (.cells #[.slice na' m.names.length nc', lv', .slice ta' m.tos.length tc'] 30 (0, 0)) := by rw [← hW0]; have := alloc_blk (w.alloc (.cells #[.slice na m.names.length nc, lv, .slice ta m.tos.length tc] 26)) (.cells #[.slice na' m.names.length nc', lv', .slice ta' m.tos.length tc'] 30); rwa [World.size_alloc] at this
  have HX : Hid (∀ W, Kept (fun _ => False) W0 W → W.cell? ⟨w.heap.size, 0, none⟩ = some (.slice na m.names.length nc) ∧ W.cell? ⟨w.heap.size, 1, none⟩ = some lv ∧ W.cell? ⟨w.heap.size, 2, none⟩ = some (.slice ta m.tos.length tc) ∧ W.cell? ⟨w.heap.size + 1, 0, none⟩ = some (.slice na' m.names.length nc') ∧ W.cell? ⟨w.heap.size + 1, 1, none⟩ = some lv' ∧ W.cell? ⟨w.heap.size + 1, 2, none⟩ = some (.slice ta' m.tos.length tc')) := fun W hk =>
    ⟨(hk.cell (p := ⟨w.heap.size, 0, none⟩) (lt_of_cell (blk_cell b0 0)) (fun f => f)).trans (blk_cell b0 0), (hk.cell (p := ⟨w.heap.size, 1, none⟩) (lt_of_cell (blk_cell b0 1)) (fun f => f)).trans (blk_cell b0 1), (hk.cell (p := ⟨w.heap.size, 2, none⟩) (lt_of_cell (blk_cell b0 2)) (fun f => f)).trans (blk_cell b0 2), (hk.cell (p := ⟨w.heap.size + 1, 0, none⟩) (lt_of_cell (blk_cell b1 0)) (fun f => f)).trans (blk_cell b1 0), (hk.cell (p := ⟨w.heap.size + 1, 1, none⟩) (lt_of_cell (blk_cell b1 1)) (fun f => f)).trans (blk_cell b1 1), (hk.cell (p := ⟨w.heap.size + 1, 2, none⟩) (lt_of_cell (blk_cell b1 2)) (fun f => f)).trans (blk_cell b1 2)⟩
  have HB0 : Hid (∀ W, Kept (fun _ => False) W0 W → B ≤ W.heap.size ∧ C ≤ W.heap.size) := fun W hk => ⟨Nat.le_trans hB (Nat.le_trans k0.size hk.size), Nat.le_trans hC (Nat.le_trans k0.size hk.size)⟩
  have HL : Hid (∀ W, Kept (fun _ => False) W0 W → Calls Tryz.prog 33 #[lv, lv'] W fun e w' => Kept (fun _ => False) W w' ∧ e = .returned (.bool true)) := fun W hk => by
    have h := ints33 W B C lv lv' m.letters m.letters (hl.below ((k0.trans hk (fun _ _ f => f)).below hB (fun _ f => f.elim))) (hl'.below ((k0.trans hk (fun _ _ f => f)).below hC (fun _ f => f.elim))) (HB0.out W hk).1 (HB0.out W hk).2
    simpa using h
  have HNS : Hid (∀ W, Kept (fun _ => False) W0 W → ∀ i (hi : i < m.names.length), ∃ b o b' o', na = some ⟨b, o, none⟩ ∧ na' = some ⟨b', o', none⟩ ∧ W.cell? ⟨b, o + i, none⟩ = some (.string m.names[i]) ∧ W.cell? ⟨b', o' + i, none⟩ = some (.string m.names[i])) := fun W hk i hi => by
    obtain ⟨b, o, e, _, h⟩ := StrsV.cell (LsV.kept hn (k0.trans hk (fun _ _ f => f)) hB) hi
    obtain ⟨b', o', e', _, h'⟩ := StrsV.cell (LsV.kept hn' (k0.trans hk (fun _ _ f => f)) hC) hi
    exact ⟨b, o, b', o', e, e', h, h'⟩
  have HTS : Hid (∀ i (hi : i < m.tos.length), ∃ b o b' o' r r', ta = some ⟨b, o, none⟩ ∧ ta' = some ⟨b', o', none⟩ ∧ (∀ W, Kept (fun _ => False) W0 W → W.cell? ⟨b, o + i, none⟩ = some r ∧ W.cell? ⟨b', o' + i, none⟩ = some r' ∧ Calls Tryz.prog 33 #[r, r'] W fun e w' => Kept (fun _ => False) W w' ∧ e = .returned (.bool true))) := fun i hi => by
    have hi1 : i < rs.length := by omega
    have hi2 : i < rs'.length := by omega
    obtain ⟨b, o, e, _, _⟩ := ht.cell (List.getElem?_eq_getElem hi1)
    obtain ⟨b', o', e', _, _⟩ := ht'.cell (List.getElem?_eq_getElem hi2)
    refine ⟨b, o, b', o', rs[i], rs'[i], e, e', fun W hk => ?_⟩
    obtain ⟨b2, o2, e2, _, h⟩ := (ht.kept (k0.trans hk (fun _ _ f => f)) hB).cell (List.getElem?_eq_getElem hi1)
    obtain ⟨b2', o2', e2', _, h'⟩ := (ht'.kept (k0.trans hk (fun _ _ f => f)) hC).cell (List.getElem?_eq_getElem hi2)
    rw [e] at e2
    rw [e'] at e2'
    cases e2
    cases e2'
    refine ⟨h, h', ?_⟩
    have h3 := ints33 W B C rs[i] rs'[i] m.tos[i] m.tos[i] ((hr i _ _ (List.getElem?_eq_getElem hi1) (List.getElem?_eq_getElem hi)).below ((k0.trans hk (fun _ _ f => f)).below hB (fun _ f => f.elim))) ((hr' i _ _ (List.getElem?_eq_getElem hi2) (List.getElem?_eq_getElem hi)).below ((k0.trans hk (fun _ _ f => f)).below hC (fun _ f => f.elim))) (HB0.out W hk).1 (HB0.out W hk).2
    simpa using h3
  have HK0 : Hid (Kept (fun _ => False) w W0) := k0
  obtain ⟨x0, x1, x2, y0, y1, y2⟩ := HX.out W0 (Kept.refl _ _)
  have C1 := HL.out W0 (Kept.refl _ _)
  clear hm hm' hn hn' hl hl' ht ht' hr hr' b0 b1 k0
  go_enter Tryz.func8, Tryz.ntmps8
  go_upto_region 4 with (go_at_call 33; refine C1.mono ?_; rintro e w1 ⟨k1, rfl⟩; clear x0 x1 x2 y0 y1 y2; obtain ⟨x0, x1, x2, y0, y1, y2⟩ := HX.out w1 k1)
  clear x0 x1 x2 y0 y1 y2 hW0 C1
  go_wp2
  go_loopw [6] (fun iv wr => ∃ k : Nat, k ≤ m.names.length ∧ iv = .int .i64 k ∧ Kept (fun _ => False) W0 wr) (fun iv _ => m.names.length - (intOf iv).toNat)
  case atStart => exact ⟨0, Nat.zero_le _, rfl, k1⟩
  case round =>
    obtain ⟨k, hk, rfl, hkr⟩ := hrel
    obtain ⟨x0, x1, x2, y0, y1, y2⟩ := HX.out wr hkr
    by_cases hlt : k < m.names.length
    · have hki : (k : Int) < (m.names.length : Int) := by omega
      obtain ⟨b, o, b', o', rfl, rfl, cn, cn'⟩ := HNS.out wr hkr k hlt
      generalize m.names[k] = nk at *
      go_wp2
      go_region
      all_goals
        go_wp2
        go_roundw
        case rel => exact ⟨k + 1, by omega, by simp, hkr.drew⟩
        case measure => simp [intOf]; omega
    · obtain rfl : k = m.names.length := by omega
      go_wp2
      clear x0 x1 x2 y0 y1 y2
      go_loopw [7] (fun iv wr => ∃ k : Nat, k ≤ m.tos.length ∧ iv = .int .i64 k ∧ Kept (fun _ => False) W0 wr) (fun iv _ => m.tos.length - (intOf iv).toNat)
      case atStart => exact ⟨0, Nat.zero_le _, rfl, hkr⟩
      case round =>
        obtain ⟨k, hk, rfl, hkr⟩ := hrel
        obtain ⟨x0, x1, x2, y0, y1, y2⟩ := HX.out wr hkr
        by_cases hlt : k < m.tos.length
        · have hki : (k : Int) < (m.tos.length : Int) := by omega
          obtain ⟨b, o, b', o', r, r', rfl, rfl, hrr⟩ := HTS.out k hlt
          have HRR : Hid _ := hrr
          obtain ⟨cr, cr', _⟩ := hrr wr hkr
          clear hrr
          go_upto_region 12 with fail
          have U0 : ∀ U : KW wr, U.1.cell? ⟨w.heap.size, 2, none⟩ = some (.slice (some ⟨b, o, none⟩) m.tos.length tc) := fun U => U.cell x2
          have U1 : ∀ U : KW wr, U.1.cell? ⟨w.heap.size + 1, 2, none⟩ = some (.slice (some ⟨b', o', none⟩) m.tos.length tc') := fun U => U.cell y2
          have U2 : ∀ U : KW wr, U.1.cell? ⟨b, o + k, none⟩ = some r := fun U => U.cell cr
          have U3 : ∀ U : KW wr, U.1.cell? ⟨b', o' + k, none⟩ = some r' := fun U => U.cell cr'
          have HQ : Hid (∀ U : KW wr, Calls Tryz.prog 33 #[r, r'] U.1 fun e w' => Kept (fun _ => False) U.1 w' ∧ e = .returned (.bool true)) := fun U => (HRR.out U.1 (hkr.trans U.2 (fun _ _ f => f))).2.2
          refine wp_region_quiet_kept (by kernel_rfl) (by kernel_rfl) ?_
          repeat (refine wpQuiet_step (fun K hK => ?_); go_simp; first | (refine hK _ ?_; clear hK K) | (apply Exists.intro; refine ⟨fun U => ?_, hK _ ?_⟩; (go_at_call 33; exact Calls.quiet_kept (HQ.out U)); clear hK K))
          refine wpQuiet_nil ?_
          intro w3 hw'
          have k3 : Kept (fun _ => False) wr w3 := by
            obtain ⟨U, rfl⟩ := hw'
            exact U.2
          have hkr3 := hkr.trans k3 (fun _ _ f => f)
          clear hw' U0 U1 U2 U3 cr cr' x0 x1 x2 y0 y1 y2 k3 hkr
          go_wp2
          go_roundw
          case rel => exact ⟨k + 1, by omega, by simp, hkr3⟩
          case measure => simp [intOf]; omega
        · obtain rfl : k = m.tos.length := by omega
          go_wp2
          go_ret
          exact ⟨HK0.out.trans hkr (fun _ _ f => f), rfl⟩
end Go.Proofs.YtdbpdanocpfboabGreatDoor
