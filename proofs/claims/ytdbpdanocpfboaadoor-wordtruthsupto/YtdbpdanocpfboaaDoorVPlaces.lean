/- Walks of package word: placesOf. -/
import Derived.Test.YtdbpdanocpfboaaDoorVRow3
import Derived.Deep.AppendSrc
import Derived.Deep.RegionLaw
import Derived.Deep.Upon
import Derived.Deep.DeepCutAuto
namespace Go.Proofs.YtdbpdanocpfboaaDoor
open Go.RowKit Go.Shelf

theorem wpList_append_run {P : Program} {w w' : World} {ops : Array Oper} {rest : List Oper} {o : Oper} {a : Act} {Q : Exit → Act → World → Prop} {v' : Value} (hgd : o.guard = none) (s x : Operand) (t tx : TypeId)
    (ho : o.op = .call { callee := .builtin .append, args := #[s, x], argTypes := #[t, tx] }) (v u : Value) (hs : a.eval s = v) (hx : a.eval x = u) (hr : ∀ ty, (Builtin.append_ #[t, tx] ty #[v, u]).run P w = .ok v' w')
    (h : wpList P ops Q rest (a.put o.dst v') w') : wpList P ops Q (o :: rest) a w := by
  refine wpList_plain hgd fun K hK => ?_
  unfold Oper.wp execOp
  simp only [ho, resolve, invoke, builtin, Sem.run_bind, Sem.run_pure, Result.andThen_ok, List.map_toArray, List.map_cons, List.map_nil, hs, hx, hr]
  exact hK _ _ h
theorem step_append_run {P : Program} {ops : Array Oper} {o : Oper} {a : Act} {w w' : World} {K : Act → World → Prop} {Q : Exit → Act → World → Prop} {E : Prop} {v' : Value}
    (hg : o.guard = none) (s x : Operand) (t tx : TypeId) (hop : o.op = Op.call { callee := Callee.builtin Builtin.append, args := #[s, x], argTypes := #[t, tx] }) (v u : Value) (hs : a.eval s = v) (hx : a.eval x = u)
    (hr : ∀ ty, (Builtin.append_ #[t, tx] ty #[v, u]).run P w = .ok v' w') (hK : K (a.put o.dst v') w') : if Region.wanted o (yielded ops a.tmps) = true then Oper.wp P o a w K Q else E := by
  have hw : Region.wanted o (yielded ops a.tmps) = true := by simp [Region.wanted, hg]
  rw [if_pos hw]
  unfold Oper.wp
  simp [execOp, hop, resolve, invoke, builtin, hs, hx, hr, Result.andThen]
  exact hK

/-- block b, new since w0, is a row of n ints, filled as far as xs goes -/
def IRow (w0 w : World) (b n : Nat) (xs : List Int) : Prop :=
  Kept (fun _ => False) w0 w ∧ w0.heap.size ≤ b ∧ xs.length ≤ n ∧ (∀ i, i < n → (w.cell? ⟨b, i, none⟩).isSome = true ∧ w.frozen? ⟨b, i, none⟩ = false) ∧ ∀ i (h : i < xs.length), w.cell? ⟨b, i, none⟩ = some (.int .i64 xs[i])
theorem IRow.drew {w0 w : World} {b n : Nat} {xs : List Int} (h : IRow w0 w b n xs) : IRow w0 w.drew b n xs := ⟨h.1.drew, h.2⟩

theorem IRow.rebase {w w0 W : World} {b n : Nat} {xs : List Int} (h : IRow w0 W b n xs) (hk : Kept (fun _ => False) w w0) : IRow w W b n xs :=
  ⟨hk.trans h.1 (fun _ _ f => f), Nat.le_trans hk.size h.2.1, h.2.2⟩
theorem IRow.set {w W : World} {b n : Nat} {xs : List Int} (h : IRow w W b n xs) {p : Addr} (hp : p.block ≠ b) (hw : w.heap.size ≤ p.block) (v : Value) : IRow w (W.setCell p v) b n xs := by
  obtain ⟨h1, h2, h3, h4, h5⟩ := h
  have hb : (W.setCell p v).heap[b]? = W.heap[b]? := Below.heap_setCell _ _ _ _ (fun e => hp e.symm)
  refine ⟨h1.setCell (fun hh => by omega) _, h2, h3, fun i hi => ?_, fun i hi => (World.cell?_of_block (w := W) (a := ⟨b, i, none⟩) hb).trans (h5 i hi)⟩
  rw [World.cell?_of_block (w := W) (a := ⟨b, i, none⟩) hb, World.frozen?_of_block (w := W) (a := ⟨b, i, none⟩) hb]
  exact h4 i hi
theorem kept_setCells {S : Nat → Prop} {w0 w : World} (h : Kept S w0 w) (b : Nat) (hb : w0.heap.size ≤ b) : ∀ (vs : List Value) (o : Nat), Kept S w0 (w.setCells b o vs) := by
  intro vs
  induction vs generalizing w with
  | nil => intro o; exact h
  | cons v r ih => intro o; exact ih (h.setCell (fun hh => by simp at hh; omega) _) (o + 1)

theorem IRow.fill {w0 w : World} {b n : Nat} {xs ys : List Int} (h : IRow w0 w b n xs) (hl : xs.length + ys.length ≤ n) : IRow w0 (w.setCells b xs.length (ys.map (Value.int .i64))) b n (xs ++ ys) := by
  obtain ⟨h1, h2, h3, h4, h5⟩ := h
  have hs : ∀ j, j < (ys.map (Value.int .i64)).length → (w.cell? ⟨b, xs.length + j, none⟩).isSome = true := fun j hj => (h4 _ (by simp at hj; omega)).1
  refine ⟨kept_setCells h1 b h2 _ _, h2, by simpa using hl, fun i hi => ⟨?_, ?_⟩, fun i hi => ?_⟩
  · by_cases hi2 : i < xs.length ∨ xs.length + ys.length ≤ i
    · rw [World.cell?_setCells_out b _ _ _ ⟨b, i, none⟩ (fun _ _ => by simpa using hi2)]
      exact (h4 i hi).1
    · have hj : i - xs.length < (ys.map (Value.int .i64)).length := by simp; omega
      have := World.cell?_setCells_in b (ys.map (Value.int .i64)) xs.length w hs (i - xs.length) hj
      rw [show xs.length + (i - xs.length) = i by omega] at this
      rw [this]
      rfl
  · rw [World.frozen?_setCells]; exact (h4 i hi).2
  · by_cases hi2 : i < xs.length
    · rw [World.cell?_setCells_out b _ _ _ ⟨b, i, none⟩ (fun _ _ => .inl hi2), h5 i hi2]
      simp [hi2]
    · have hi3 : i < xs.length + ys.length := by simpa using hi
      have hj : i - xs.length < (ys.map (Value.int .i64)).length := by simp; omega
      have := World.cell?_setCells_in b (ys.map (Value.int .i64)) xs.length w hs (i - xs.length) hj
      rw [show xs.length + (i - xs.length) = i by omega] at this
      rw [this]
      simp [List.getElem_append_right (by omega : xs.length ≤ i)]

theorem info3' : (Tryd.prog.info? 3).map (fun i => (i.zero, i.size, i.bytes)) = some (some (.int .i64 0), 1, 8) := by kernel_rfl

theorem append_ints {w0 w : World} {b n B : Nat} {xs ys : List Int} {v : Value} {t : TypeId} (ht : Tryd.prog.underlying t = some (.slice 3)) (h : IRow w0 w b n xs) (hl : xs.length + ys.length ≤ n) (hv : IntsV B w v ys) :
    ∀ ty, (Builtin.append_ #[t, 46] ty #[.slice (some ⟨b, 0, none⟩) xs.length n, v]).run Tryd.prog w = .ok (.slice (some ⟨b, 0, none⟩) (xs.length + ys.length) n) (w.setCells b xs.length (ys.map (Value.int .i64))) := by
  intro ty
  obtain ⟨i0, hi, hz0, hz1, hz2⟩ := info_parts info3'
  have hsrc : Src Tryd.prog i0.size 46 v ys.length (ys.map (Value.int .i64)) w := by
    rw [hz1]
    obtain ⟨a, cap, rfl, hc1, hc2, hc⟩ := hv
    cases a with
    | none =>
      have : ys = [] := by
        cases ys with
        | nil => rfl
        | cons y r => obtain ⟨_, _, e, _⟩ := hc 0 y rfl; cases e
      subst this
      exact Src.ofNil w Tryd.underlying46 cap
    | some ad =>
      refine Src.ofSlice w Tryd.underlying46 ad ys.length cap (ys.map (Value.int .i64)) (by simp) (fun j u hu => ?_) (ints_oneCell .i64 ys)
      simp only [List.getElem?_map, Option.map_eq_some_iff] at hu
      obtain ⟨y, hy, rfl⟩ := hu
      obtain ⟨b', off, e, _, hcell⟩ := hc j y hy
      cases e
      have e2 : (⟨b', off, none⟩ : Addr).add j = ⟨b', off + j, none⟩ := by
        unfold Addr.add
        by_cases h0 : j = 0
        · subst h0; simp
        · simp [h0]
      rw [e2]
      exact hcell
  have := run_append_room_src (P := Tryd.prog) w t 46 ty 3 i0 ht hi b 0 xs.length n v ys.length (ys.map (Value.int .i64)) hsrc hl
    (fun j hj => by rw [hz1]; simp only [Nat.zero_add, Nat.mul_one]; exact (h.2.2.2.1 _ (by simp at hj; omega)).1) (fun j hj => by rw [hz1]; simp only [Nat.zero_add, Nat.mul_one]; exact (h.2.2.2.1 _ (by simp at hj; omega)).2)
  rw [hz1] at this
  simpa using this

set_option maxRecDepth 100000 in
set_option maxHeartbeats 1000000 in
theorem places60 (w : World) (B : Nat) (v : Value) (hd lp : List Int) (hv : WordV B w v hd lp) (hB : B ≤ w.heap.size) (hl : hd.length + lp.length ≤ 20000) :
    Calls Tryd.prog 59 #[v] w fun e w' => ∃ b, e = .returned (.agg #[.slice (some ⟨b, 0, none⟩) (hd.length + lp.length) (hd.length + lp.length), .int .i64 (hd.length : Int)]) ∧ IRow w w' b (hd.length + lp.length) (hd ++ lp) := by
  obtain ⟨hv1, lv1, rfl, h1, h2⟩ := hv
  obtain ⟨ha, hc, e1, _⟩ := h1.form
  obtain ⟨la, lc, e2, _⟩ := h2.form
  obtain ⟨i0, hi, hz0, hz1, hz2⟩ := info_parts info3'
  have hmk : ∀ u : World, (Instr.makeSlice 95 (.int .i64 0) (.int .i64 ((hd.length : Int) + (lp.length : Int)))).run Tryd.prog u = .ok (.slice (some ⟨u.heap.size, 0, none⟩) 0 (hd.length + lp.length)) (u.alloc (.cells (madeCells #[.int .i64 0] (hd.length + lp.length)) 3)) := fun u => by
    have h := run_make (P := Tryd.prog) u 95 3 i0 (.int .i64 0) Tryd.underlying95 hi hz0 .i64 .i64 0 ((hd.length : Int) + (lp.length : Int)) (by omega) (by omega) (by rw [hz2]; omega) (by omega)
    have e : ((hd.length : Int) + (lp.length : Int)).toNat = hd.length + lp.length := by omega
    rw [e, hz1] at h
    simpa [Value.cells] using h
  subst e1 e2
  have hk2 : Kept (fun _ => False) w ((w.alloc (.cells #[.slice ha hd.length hc, .slice la lp.length lc] 49)).alloc (.cells #[.slice none 0 0, .int .i64 0] 97)) := ((Kept.refl _ _).alloc _).alloc _
  have g1 := h1.below (hk2.below hB (fun _ f => f.elim))
  have g2 := h2.below (hk2.below hB (fun _ f => f.elim))
  have c0 : ((w.alloc (.cells #[.slice ha hd.length hc, .slice la lp.length lc] 49)).alloc (.cells #[.slice none 0 0, .int .i64 0] 97)).cell? ⟨w.heap.size, 0, none⟩ = some (.slice ha hd.length hc) := by simp
  have c1 : ((w.alloc (.cells #[.slice ha hd.length hc, .slice la lp.length lc] 49)).alloc (.cells #[.slice none 0 0, .int .i64 0] 97)).cell? ⟨w.heap.size, 1, none⟩ = some (.slice la lp.length lc) := by simp
  have r0 : ((w.alloc (.cells #[.slice ha hd.length hc, .slice la lp.length lc] 49)).alloc (.cells #[.slice none 0 0, .int .i64 0] 97)).cell? ⟨w.heap.size + 1, 0, none⟩ = some (.slice none 0 0) := by rw [World.cell?_alloc_at (hn := by simp)]; rfl
  have r1 : ((w.alloc (.cells #[.slice ha hd.length hc, .slice la lp.length lc] 49)).alloc (.cells #[.slice none 0 0, .int .i64 0] 97)).cell? ⟨w.heap.size + 1, 1, none⟩ = some (.int .i64 0) := by rw [World.cell?_alloc_at (hn := by simp)]; rfl
  have rb : ((w.alloc (.cells #[.slice ha hd.length hc, .slice la lp.length lc] 49)).alloc (.cells #[.slice none 0 0, .int .i64 0] 97)).heap[w.heap.size + 1]? = some (.cells #[.slice none 0 0, .int .i64 0] 97 (0, 0)) := by
    have := (MapKept.heap_alloc (w.alloc (.cells #[.slice ha hd.length hc, .slice la lp.length lc] 49)) (.cells #[.slice none 0 0, .int .i64 0] 97)).1
    simpa using this
  go_enter Tryd.func59, Tryd.ntmps59
  go_upto_region 1 with fail
  clear h1 h2
  generalize ((w.alloc (.cells #[.slice ha hd.length hc, .slice la lp.length lc] 49)).alloc (.cells #[.slice none 0 0, .int .i64 0] 97)) = w2 at *
  have l0 := lt_of_cell c0
  have l1 := lt_of_cell r0
  have fr0 : w2.frozen? ⟨w.heap.size + 1, 0, none⟩ = false := by simp [World.frozen?, rb]
  have fr1 : w2.frozen? ⟨w.heap.size + 1, 1, none⟩ = false := by simp [World.frozen?, rb]
  clear rb
  have hI : IRow w2 (w2.alloc (.cells (madeCells #[.int .i64 0] (hd.length + lp.length)) 3)) w2.heap.size (hd.length + lp.length) [] :=
    ⟨(Kept.refl _ _).alloc _, Nat.le_refl _, by simp, fun i hi => by rw [cell_made _ _ _ hi]; exact ⟨rfl, by simp⟩, fun i hi => by simp at hi⟩
  have hI2 := hI.fill (ys := hd) (by simp)
  have G1 := g1.below (hI.1.below (Nat.le_trans hB hk2.size) (fun _ f => f.elim))
  have A1 := append_ints Tryd.underlying95 hI (by simp) G1
  have G2 := (g2.below (hI2.1.drew.below (Nat.le_trans hB hk2.size) (fun _ f => f.elim)))
  have hI3 := hI2.drew.fill (ys := lp) (by simp)
  have A2 := append_ints Tryd.underlying95 hI2.drew (by simp) G2
  simp only [List.length_nil, Nat.zero_add, List.nil_append] at A1 A2 hI2 hI3
  have HA1 : Hid _ := A1
  have HA2 : Hid _ := A2
  have HI3 : Hid _ := hI3
  have k2 := hI2.1
  have x0 := (k2.cell (p := ⟨w.heap.size, 0, none⟩) l0 (fun f => f)).trans c0
  have x1 := (k2.cell (p := ⟨w.heap.size, 1, none⟩) l0 (fun f => f)).trans c1
  have z0 := (hI3.1.cell (p := ⟨w.heap.size, 0, none⟩) l0 (fun f => f)).trans c0
  have z1 := (hI3.1.cell (p := ⟨w.heap.size, 1, none⟩) l0 (fun f => f)).trans c1
  have y0 := (hI3.1.cell (p := ⟨w.heap.size + 1, 0, none⟩) l1 (fun f => f)).trans r0
  have y1 := (hI3.1.cell (p := ⟨w.heap.size + 1, 1, none⟩) l1 (fun f => f)).trans r1
  have v0 := (hI3.1.frozen (p := ⟨w.heap.size + 1, 0, none⟩) l1 (fun f => f)).trans fr0
  have v1 := (hI3.1.frozen (p := ⟨w.heap.size + 1, 1, none⟩) l1 (fun f => f)).trans fr1
  clear A1 A2 hI hI2 hI3 G1 G2 g1 g2 k2
  go_wp2_with (at_builtin; refine wpList_append_run rfl _ _ 95 46 rfl (.slice (some ⟨w2.heap.size, 0, none⟩) 0 (hd.length + lp.length)) (.slice ha hd.length hc) rfl rfl HA1.out ?_)
  go_region_law (refine step_append_run rfl (.tmp 16) (.tmp 18) 95 46 rfl (.slice (some ⟨w2.heap.size, 0, none⟩) hd.length (hd.length + lp.length)) (.slice la lp.length lc) (by first | rfl | (simp [Act.eval, Act.put]; done)) (by first | rfl | (simp [Act.eval, Act.put]; done)) HA2.out ?_)
  all_goals
    go_wp2
    refine bodyPost_ret (v := .agg #[.slice (some ⟨w2.heap.size, 0, none⟩) (hd.length + lp.length) (hd.length + lp.length), .int .i64 (hd.length : Int)]) (by simp [results, Tryd.results59, go_sem, y0, y1]) rfl ⟨w2.heap.size, rfl, ?_⟩
    exact ((IRow.rebase HI3.out hk2).set (by simp; omega) (by simp) _).set (by simp; omega) (by simp) _
end Go.Proofs.YtdbpdanocpfboaaDoor
