/- Walks of package nodes: Add. -/
import Derived.Test.YtdbpdanocpfboaaDoorVNode
import Derived.Deep.RegionLaw
namespace Go.Proofs.YtdbpdanocpfboaaDoor
open Go.RowKit

theorem step_append_own {P : Program} {ops : Array Oper} {o : Oper} {a : Act} {w : World} {K : Act → World → Prop} {Q : Exit → Act → World → Prop} {E : Prop}
    (hg : o.guard = none) (s x : Operand) (t : TypeId) (hop : o.op = Op.call { callee := Callee.builtin Builtin.append, args := #[s, x], argTypes := #[t, t] })
    (base : Nat) (e : TypeId) (i : TypeInfo) (z : Value) (size bytes : Nat) (h1 : P.underlying t = some (.slice e)) (h2 : P.info? e = some i) (h3 : i.zero = some z) (h4 : i.size = size) (h5 : i.bytes = bytes) (h6 : z.cells.size = size) (h7 : 0 < size)
    (v : Value) (n : Nat) (xs : List Value) (hs : a.eval s = v) (hown : w.ownsRow base e size v n xs)
    (ad : Addr) (m c : Nat) (news : List Value) (hx : a.eval x = .slice (some ad) m c) (hn : news.length = m * size) (hc : ∀ j u, news[j]? = some u → w.cell? (ad.add j) = some u) (h1c : ∀ u ∈ news, u.oneCell' = true)
    (b1 : n + m ≤ maxLen) (b2 : (n + m) * bytes ≤ 140737488355328) (hbase : base ≤ w.heap.size)
    (hK : ∀ v' w', w'.ownsRow base e size v' (n + m) (xs ++ news) → w.grownBy w' v.ownBlock → (v'.ownBlock = v.ownBlock ∨ v'.ownBlock = some w.heap.size) → K (a.put o.dst v') w') :
    if Region.wanted o (yielded ops a.tmps) = true then Oper.wp P o a w K Q else E := by
  have hw : Region.wanted o (yielded ops a.tmps) = true := by simp [Region.wanted, hg]
  rw [if_pos hw]
  obtain ⟨v', w', hrun, r1, r2, _, r4⟩ := run_append_own_at (P := P) w base t o.type e i z size bytes h1 h2 h3 h4 h5 h6 h7 v n xs hown ad m c news hn hc h1c b1 b2 hbase
  unfold Oper.wp
  simp [execOp, hop, resolve, invoke, builtin, hs, hx, hrun, Result.andThen]
  exact hK v' w' r1 r2 r4

theorem info96 : (Tryd.prog.info? 102).map (fun i => (i.zero, i.size, i.bytes)) = some (some (.agg #[.int .i64 0, .int .i64 0, .int .i64 0, .int .i64 0]), 4, 32) := by kernel_rfl

theorem zero3 (w : World) : (zeroValue 3).run Tryd.prog w = .ok (.int .i64 0) w := by kernel_rfl
theorem Gm.alloc {w : World} {b : Nat} {m : Value → Option Value} (h : Gm isNode w b m) (o : Obj) : Gm isNode (w.alloc o) b m :=
  h.of_block (Below.heap_alloc _ _ _ h.lt) (fun _ hh => hh)
theorem Gm.drewN {w : World} {b : Nat} {m : Value → Option Value} (h : Gm isNode w b m) (n : Nat) : Gm isNode (w.drewN n) b m := h.of_block rfl (fun _ hh => hh)

theorem ownsRow_form {w : World} {base : Nat} {e : TypeId} {size : Nat} {v : Value} {n : Nat} {xs : List Value} (h : w.ownsRow base e size v (n + 1) xs) : ∃ g cap, v = .slice (some ⟨g, 0, none⟩) (n + 1) cap := by
  rcases h.2 with ⟨_, h2⟩ | ⟨g, cap, cur, hv, _⟩
  · cases h2
  · exact ⟨g, cap, hv⟩
theorem Gm.setCell {w : World} {b : Nat} {m : Value → Option Value} (h : Gm isNode w b m) {a : Addr} (hne : b ≠ a.block) (u : Value) : Gm isNode (w.setCell a u) b m :=
  h.of_block (Below.heap_setCell _ _ _ _ hne) (fun _ hh => hh)
theorem Gm.drew {w : World} {b : Nat} {m : Value → Option Value} (h : Gm isNode w b m) : Gm isNode w.drew b m := h.of_block rfl (fun _ hh => hh)
theorem Gm.ne_cell {w : World} {b : Nat} {m : Value → Option Value} (h : Gm isNode w b m) {a : Addr} {v : Value} (hc : w.cell? a = some v) : b ≠ a.block := by
  rintro rfl
  obtain ⟨es, clock, hb, _⟩ := h
  simp [World.cell?, hb] at hc
theorem four_cells (w : World) (a b c d : Value) (t : TypeId) : ∀ j u, [a, b, c, d][j]? = some u → (w.alloc (.cells #[a, b, c, d] t)).cell? ((⟨w.heap.size, 0, none⟩ : Addr).add j) = some u := by
  intro j u h
  match j, h with
  | 0, h => simp at h; subst h; simp [Addr.add]
  | 1, h => simp at h; subst h; simp [Addr.add]
  | 2, h => simp at h; subst h; simp [Addr.add]
  | 3, h => simp at h; subst h; simp [Addr.add]
set_option maxHeartbeats 1000000 in
theorem add84_there (w : World) (L bm : Nat) (x : Nd) (i : Nat) (m : Value → Option Value)
    (c1 : w.cell? ⟨L, 1, none⟩ = some (.map (some bm))) (hm : Gm isNode w bm m) (hx : m x.v = some (.int .i64 (i : Int))) :
    Calls Tryd.prog 84 #[.pointer (some ⟨L, 0, none⟩), x.v] w fun e w' => e = .returned (.int .i64 (i : Int)) ∧ Kept (fun _ => False) w w' := by
  obtain ⟨op, n, l, r⟩ := x
  have hlook : ∀ k, (Instr.lookup 126 (.map (some bm)) (.agg #[.int .i64 op, .int .i64 n, .int .i64 l, .int .i64 r]) true).run Tryd.prog ((w.alloc (.cells #[.int .i64 op, .int .i64 n, .int .i64 l, .int .i64 r] 102)).drewN k) = .ok (.tuple #[.int .i64 (i : Int), .bool true]) ((w.alloc (.cells #[.int .i64 op, .int .i64 n, .int .i64 l, .int .i64 r] 102)).drewN k) := by
    intro k
    have := ((hm.alloc (.cells #[.int .i64 op, .int .i64 n, .int .i64 l, .int .i64 r] 102)).drewN k).look nodeKey Tryd.underlying126 (zero3 _) (k := ndV op n l r) ⟨_, _, _, _, rfl⟩
    have hx' : m (ndV op n l r) = some (.int .i64 (i : Int)) := hx
    rw [hx'] at this
    exact this
  have hL := lt_of_cell c1
  have c1' : (w.alloc (.cells #[.int .i64 op, .int .i64 n, .int .i64 l, .int .i64 r] 102)).cell? ⟨L, 1, none⟩ = some (.map (some bm)) := by
    rw [World.cell?_alloc_past _ _ _ hL]; exact c1
  clear hx hm
  simp only [Nd.v, ndV]
  go_enter Tryd.func84, Tryd.ntmps84
  go_wp2
  go_quiet (fail)
  go_wp2
  go_ret
  exact ⟨rfl, by repeat (first | exact Kept.refl _ _ | apply Kept.drewN | apply Kept.alloc)⟩

set_option maxHeartbeats 1000000 in
theorem add84_new (w : World) (base L bm : Nat) (nv : Value) (nn : Nat) (xs : List Value) (x : Nd) (m : Value → Option Value)
    (c0 : w.cell? ⟨L, 0, none⟩ = some nv) (c1 : w.cell? ⟨L, 1, none⟩ = some (.map (some bm))) (f0 : w.frozen? ⟨L, 0, none⟩ = false)
    (hown : w.ownsRow base 102 4 nv nn xs) (hbase : base ≤ w.heap.size) (hnn : nn ≤ 1073741824) (hL : L < w.heap.size) (sepL : nv.ownBlock ≠ some L) (sepM : nv.ownBlock ≠ some bm) (sepB : ∀ k, some k = nv.ownBlock → k < w.heap.size)
    (hm : Gm isNode w bm m) (hx : m x.v = none) :
    Calls Tryd.prog 84 #[.pointer (some ⟨L, 0, none⟩), x.v] w fun e w' => e = .returned (.int .i64 (nn : Int)) ∧ ∃ W1 w2 g cap m5, Kept (fun _ => False) w W1 ∧ W1.heap.size = w.heap.size + 1 ∧ Kept (fun k => some k = nv.ownBlock) W1 w2 ∧
      w2.ownsRow base 102 4 (.slice (some ⟨g, 0, none⟩) (nn + 1) cap) (nn + 1) (xs ++ x.cells) ∧
      ((Value.slice (some ⟨g, 0, none⟩) (nn + 1) cap).ownBlock = nv.ownBlock ∨ (Value.slice (some ⟨g, 0, none⟩) (nn + 1) cap).ownBlock = some (W1.alloc (.cells x.cells.toArray 102)).drew.heap.size) ∧
      (w2.setCell ⟨L, 0, none⟩ (.slice (some ⟨g, 0, none⟩) (nn + 1) cap)).drew.grownBy w' (some bm) ∧ Gm isNode w' bm m5 ∧ m5 x.v = some (.int .i64 (nn : Int)) ∧ (∀ k', k' ≠ x.v → m5 k' = m k') := by
  obtain ⟨i0, hi, hz0, hz1, hz2⟩ := info_parts info96
  obtain ⟨op, n, l, r⟩ := x
  have hlook : ∀ k, (Instr.lookup 126 (.map (some bm)) (.agg #[.int .i64 op, .int .i64 n, .int .i64 l, .int .i64 r]) true).run Tryd.prog ((w.alloc (.cells #[.int .i64 op, .int .i64 n, .int .i64 l, .int .i64 r] 102)).drewN k) = .ok (.tuple #[.int .i64 0, .bool false]) ((w.alloc (.cells #[.int .i64 op, .int .i64 n, .int .i64 l, .int .i64 r] 102)).drewN k) := by
    intro k
    have := ((hm.alloc (.cells #[.int .i64 op, .int .i64 n, .int .i64 l, .int .i64 r] 102)).drewN k).look nodeKey Tryd.underlying126 (zero3 _) (k := ndV op n l r) ⟨_, _, _, _, rfl⟩
    have hx' : m (ndV op n l r) = none := hx
    rw [hx'] at this
    exact this
  obtain ⟨na, nc, rfl⟩ : ∃ na nc, nv = .slice na nn nc := by
    rcases hown.2 with ⟨rfl, rfl⟩ | ⟨g, cap, cur, rfl, _⟩
    · exact ⟨_, _, rfl⟩
    · exact ⟨_, _, rfl⟩
  have c0' : (w.alloc (.cells #[.int .i64 op, .int .i64 n, .int .i64 l, .int .i64 r] 102)).cell? ⟨L, 0, none⟩ = some (.slice na nn nc) := by
    rw [World.cell?_alloc_past _ _ _ hL]; exact c0
  have c1' : (w.alloc (.cells #[.int .i64 op, .int .i64 n, .int .i64 l, .int .i64 r] 102)).cell? ⟨L, 1, none⟩ = some (.map (some bm)) := by
    rw [World.cell?_alloc_past _ _ _ hL]; exact c1
  have f0' : (w.alloc (.cells #[.int .i64 op, .int .i64 n, .int .i64 l, .int .i64 r] 102)).frozen? ⟨L, 0, none⟩ = false := by
    rw [World.frozen?_alloc_past _ _ _ hL]; exact f0
  have hown' : (w.alloc (.cells #[.int .i64 op, .int .i64 n, .int .i64 l, .int .i64 r] 102)).ownsRow base 102 4 (.slice na nn nc) nn xs := hown.alloc _
  have hm' := hm.alloc (.cells #[.int .i64 op, .int .i64 n, .int .i64 l, .int .i64 r] 102)
  have hx' : m (ndV op n l r) = none := hx
  simp only [Nd.v, ndV]
  go_enter Tryd.func84, Tryd.ntmps84
  go_wp2
  go_quiet (fail)
  have b0 : ((w.alloc (.cells #[.int .i64 op, .int .i64 n, .int .i64 l, .int .i64 r] 102)).drewN nq).cell? ⟨w.heap.size, 0, none⟩ = some (.int .i64 op) := by simp
  have b1 : ((w.alloc (.cells #[.int .i64 op, .int .i64 n, .int .i64 l, .int .i64 r] 102)).drewN nq).cell? ⟨w.heap.size, 1, none⟩ = some (.int .i64 n) := by simp
  have b2 : ((w.alloc (.cells #[.int .i64 op, .int .i64 n, .int .i64 l, .int .i64 r] 102)).drewN nq).cell? ⟨w.heap.size, 2, none⟩ = some (.int .i64 l) := by simp
  have b3 : ((w.alloc (.cells #[.int .i64 op, .int .i64 n, .int .i64 l, .int .i64 r] 102)).drewN nq).cell? ⟨w.heap.size, 3, none⟩ = some (.int .i64 r) := by simp
  have hk1 : Kept (fun _ => False) w ((w.alloc (.cells #[.int .i64 op, .int .i64 n, .int .i64 l, .int .i64 r] 102)).drewN nq) := ((Kept.refl _ _).alloc _).drewN _
  have hs1 : ((w.alloc (.cells #[.int .i64 op, .int .i64 n, .int .i64 l, .int .i64 r] 102)).drewN nq).heap.size = w.heap.size + 1 := by simp
  have d0 : ((w.alloc (.cells #[.int .i64 op, .int .i64 n, .int .i64 l, .int .i64 r] 102)).drewN nq).cell? ⟨L, 0, none⟩ = some (.slice na nn nc) := c0'
  have d1 : ((w.alloc (.cells #[.int .i64 op, .int .i64 n, .int .i64 l, .int .i64 r] 102)).drewN nq).cell? ⟨L, 1, none⟩ = some (.map (some bm)) := c1'
  have g0 : ((w.alloc (.cells #[.int .i64 op, .int .i64 n, .int .i64 l, .int .i64 r] 102)).drewN nq).frozen? ⟨L, 0, none⟩ = false := f0'
  have own1 : ((w.alloc (.cells #[.int .i64 op, .int .i64 n, .int .i64 l, .int .i64 r] 102)).drewN nq).ownsRow base 102 4 (.slice na nn nc) nn xs := hown'
  have gm1 := hm'.drewN nq
  clear c0 c1 f0 c0' c1' f0' hlook hown' hm' hm hown hx
  generalize ((w.alloc (.cells #[.int .i64 op, .int .i64 n, .int .i64 l, .int .i64 r] 102)).drewN nq) = W1 at *
  go_wp2
  go_region_law
    (refine step_append_own rfl (.tmp 27) (.tmp 29) 125 rfl base 102 i0 _ 4 32 Tryd.underlying125 hi hz0 hz1 hz2 rfl (by decide) (.slice na nn nc) nn xs (by simp [Act.eval]) (own1.alloc _) ⟨W1.heap.size, 0, none⟩ 1 1 [.int .i64 op, .int .i64 n, .int .i64 l, .int .i64 r] (by simp [Act.eval]) rfl (four_cells _ _ _ _ _ _) (by intro u hu; simp at hu; rcases hu with rfl | rfl | rfl | rfl <;> rfl) (by unfold maxLen; omega) (by omega) (by simp; omega) ?_
     intro v' w' hown2 hgrow hloc
     obtain ⟨g', cap', rfl⟩ := ownsRow_form hown2
     have hk2 : Kept (fun k => some k = (Value.slice na nn nc).ownBlock) W1 w' := ((Kept.refl _ _).alloc _).drew.grown hgrow (fun k _ e => e)
     have e0 : w'.cell? ⟨L, 0, none⟩ = some (.slice na nn nc) := (hk2.cell (p := ⟨L, 0, none⟩) (by simp; omega) (fun e => sepL e.symm)).trans d0
     have e1 : w'.cell? ⟨L, 1, none⟩ = some (.map (some bm)) := (hk2.cell (p := ⟨L, 1, none⟩) (by simp; omega) (fun e => sepL e.symm)).trans d1
     have e2 : w'.frozen? ⟨L, 0, none⟩ = false := (hk2.frozen (p := ⟨L, 0, none⟩) (by simp; omega) (fun e => sepL e.symm)).trans g0
     have q0 : w'.cell? ⟨w.heap.size, 0, none⟩ = some (.int .i64 op) := (hk2.cell (p := ⟨w.heap.size, 0, none⟩) (by simp; omega) (fun e => by have := sepB _ e; simp at this)).trans b0
     have q1 : w'.cell? ⟨w.heap.size, 1, none⟩ = some (.int .i64 n) := (hk2.cell (p := ⟨w.heap.size, 1, none⟩) (by simp; omega) (fun e => by have := sepB _ e; simp at this)).trans b1
     have q2 : w'.cell? ⟨w.heap.size, 2, none⟩ = some (.int .i64 l) := (hk2.cell (p := ⟨w.heap.size, 2, none⟩) (by simp; omega) (fun e => by have := sepB _ e; simp at this)).trans b2
     have q3 : w'.cell? ⟨w.heap.size, 3, none⟩ = some (.int .i64 r) := (hk2.cell (p := ⟨w.heap.size, 3, none⟩) (by simp; omega) (fun e => by have := sepB _ e; simp at this)).trans b3
     have gm2 : Gm isNode w' bm m := gm1.of_block (hk2.block bm gm1.lt (fun e => sepM e.symm)) (fun _ hh => hh))
  all_goals
    go_wp2
    have gm3 : Gm isNode ((w'.setCell ⟨L, 0, none⟩ (.slice (some ⟨g', 0, none⟩) (nn + 1) cap')).drew) bm m := (gm2.setCell (gm2.ne_cell e0) _).drew
    obtain ⟨w5, m5, hrun, gm5, k5, o5, gr5, sz5⟩ := gm3.store nodeKey Tryd.underlying126 (k := ndV op n l r) ⟨_, _, _, _, rfl⟩ (.int .i64 (nn : Int))
    simp only [ndV] at hrun
    go_region
    clear hrun gm3 gm2 q0 q1 q2 q3 e0 e1 e2 own1 gm1 b0 b1 b2 b3 d0 d1 g0
    go_wp2
    go_ret
    exact ⟨rfl, W1, w', g', cap', m5, hk1, hs1, hk2, hown2, hloc, gr5, gm5, k5, o5⟩


theorem numOf_same {ns : List Nd} {x : Nd} (h : ns.idxOf? x = none) : numOf (ns ++ [x]) x = some (.int .i64 (ns.length : Int)) := by
  unfold numOf List.idxOf? at *
  rw [List.findIdx?_append, h]
  simp
theorem numOf_other {ns : List Nd} {x y : Nd} (h : ¬ y = x) : numOf (ns ++ [x]) y = numOf ns y := by
  unfold numOf List.idxOf?
  rw [List.findIdx?_append]
  have : (x == y) = false := by simpa using fun q => h q.symm
  simp [List.findIdx?_cons, this]

theorem add84 (w : World) (base L bm : Nat) (nv : Value) (ns : List Nd) (x : Nd) (h : LIn w base L bm nv ns) (hbase : base ≤ w.heap.size) (hlen : ns.length < 1073741824) :
    Calls Tryd.prog 84 #[.pointer (some ⟨L, 0, none⟩), x.v] w fun e w' => ∃ (i : Nat) (nv' : Value) (ns' : List Nd), e = .returned (.int .i64 (i : Int)) ∧ LIn w' base L bm nv' ns' ∧ ((ns' = ns ∧ ns[i]? = some x) ∨ (ns' = ns ++ [x] ∧ i = ns.length)) ∧
      (∀ k, some k = nv'.ownBlock → some k = nv.ownBlock ∨ w.heap.size ≤ k) ∧ Kept (LSet L bm nv) w w' := by
  have hL : L < w.heap.size := lt_of_cell h.c0
  obtain ⟨m, gm, hm⟩ := h.map
  cases hx : ns.idxOf? x with
  | some i =>
    have e1 : m x.v = some (.int .i64 (i : Int)) := by rw [hm, numOf, hx]; rfl
    refine (add84_there w L bm x i m h.c1 gm e1).mono ?_
    rintro e w' ⟨rfl, hk⟩
    refine ⟨i, nv, ns, rfl, h.keep hk (fun _ _ hf => hf), .inl ⟨rfl, ?_⟩, fun k hk => .inl hk, hk.mono (fun _ _ hf => hf.elim)⟩
    obtain ⟨hlt, he, _⟩ := List.idxOf?_eq_some_iff.1 hx
    rw [List.getElem?_eq_getElem hlt]
    simpa using he
  | none =>
    have e1 : m x.v = none := by rw [hm, numOf, hx]; rfl
    refine (add84_new w base L bm nv ns.length (flatN ns) x m h.c0 h.c1 h.f0 h.own hbase (by omega) hL h.sepL h.sepM (fun k hk => (ownsRow_lt h.own hk).1) gm e1).mono ?_
    rintro e w' ⟨rfl, W1, w2, g, cap, m5, hk1, hs1, hk2, hown2, hloc, gr5, gm5, k5, o5⟩
    have hK : Kept (LSet L bm nv) w w' := by
      refine Kept.grown (w' := (w2.setCell ⟨L, 0, none⟩ (.slice (some ⟨g, 0, none⟩) (ns.length + 1) cap)).drew) ?_ gr5 (fun k _ e => .inr (.inl (Option.some.inj e)))
      refine Kept.drew (Kept.setCell ?_ (fun _ => .inl rfl) _)
      exact (hk1.mono (fun _ _ hf => hf.elim)).trans hk2 (fun k _ e => .inr (.inr e))
    have hs2 : (W1.alloc (.cells x.cells.toArray 102)).drew.heap.size = w.heap.size + 2 := by simp [hs1]
    have hgg : some g = nv.ownBlock ∨ g = w.heap.size + 2 := by
      rcases hloc with e | e
      · exact .inl e
      · rw [hs2] at e; exact .inr (Option.some.inj e)
    have hgL : g ≠ L := by
      rcases hgg with e | e
      · exact fun q => h.sepL (by rw [← e, q])
      · omega
    have hgM : g ≠ bm := by
      rcases hgg with e | e
      · exact fun q => h.sepM (by rw [← e, q])
      · have := gm.lt; omega
    have hLM : L ≠ bm := fun q => gm.ne_cell h.c0 q.symm
    have hL2 : L < w2.heap.size := by have := hk1.size; have := hk2.size; omega
    have hc2 : w2.cell? ⟨L, 0, none⟩ = some nv := (hk2.cell (p := ⟨L, 0, none⟩) (by simp; omega) (fun e => h.sepL e.symm)).trans ((hk1.cell (p := ⟨L, 0, none⟩) hL (fun f => f)).trans h.c0)
    have hc3 : w2.cell? ⟨L, 1, none⟩ = some (.map (some bm)) := (hk2.cell (p := ⟨L, 1, none⟩) (by simp; omega) (fun e => h.sepL e.symm)).trans ((hk1.cell (p := ⟨L, 1, none⟩) hL (fun f => f)).trans h.c1)
    have hf2 : w2.frozen? ⟨L, 0, none⟩ = false := (hk2.frozen (p := ⟨L, 0, none⟩) (by simp; omega) (fun e => h.sepL e.symm)).trans ((hk1.frozen (p := ⟨L, 0, none⟩) hL (fun f => f)).trans h.f0)
    have hb5 : ∀ k, k < w2.heap.size → k ≠ L → k ≠ bm → w'.heap[k]? = w2.heap[k]? := fun k hk h1 h2 => by
      rw [gr5.block k (by simp [World.setCell]; exact hk) (fun e => h2 (Option.some.inj e))]
      exact Below.heap_setCell _ _ _ _ h1
    have hbL : w'.heap[L]? = (w2.setCell ⟨L, 0, none⟩ (.slice (some ⟨g, 0, none⟩) (ns.length + 1) cap)).heap[L]? :=
      gr5.block L (by simp [World.setCell]; exact hL2) (fun e => hLM (Option.some.inj e))
    refine ⟨ns.length, .slice (some ⟨g, 0, none⟩) (ns.length + 1) cap, ns ++ [x], rfl, ?_, .inr ⟨rfl, rfl⟩, ?_, hK⟩
    · exact {
        c0 := (World.cell?_of_block (w := (w2.setCell ⟨L, 0, none⟩ (.slice (some ⟨g, 0, none⟩) (ns.length + 1) cap))) (a := ⟨L, 0, none⟩) hbL).trans (World.cell?_setCell_same' _ _ _ (by rw [hc2]; rfl))
        c1 := (World.cell?_of_block (w := (w2.setCell ⟨L, 0, none⟩ (.slice (some ⟨g, 0, none⟩) (ns.length + 1) cap))) (a := ⟨L, 1, none⟩) hbL).trans (by rw [World.cell?_setCell_other _ _ _ _ (by simp)]; exact hc3)
        f0 := (World.frozen?_of_block (w := (w2.setCell ⟨L, 0, none⟩ (.slice (some ⟨g, 0, none⟩) (ns.length + 1) cap))) (a := ⟨L, 0, none⟩) hbL).trans (by rw [World.frozen?_setCell]; exact hf2)
        own := by
          have := ownsRow_of_block (w' := w') hown2 (fun k hk => hb5 k (ownsRow_lt hown2 hk).1 (fun q => hgL (by rw [← q]; exact (Option.some.inj hk).symm)) (fun q => hgM (by rw [← q]; exact (Option.some.inj hk).symm)))
          rw [flatN_append]
          simpa using this
        map := ⟨m5, gm5, fun y => by
          by_cases hy : y = x
          · subst hy; rw [k5, numOf_same hx]
          · rw [o5 _ (fun q => hy (Nd.v_inj q)), hm, numOf_other hy]⟩
        sepL := fun q => hgL (Option.some.inj q)
        sepM := fun q => hgM (Option.some.inj q)
        bL := h.bL
        bM := h.bM
        len := by simp; omega }
    · intro k hk
      rcases hgg with e | e
      · left; rw [← e]; exact hk
      · right; have : k = g := Option.some.inj hk; omega
end Go.Proofs.YtdbpdanocpfboaaDoor
