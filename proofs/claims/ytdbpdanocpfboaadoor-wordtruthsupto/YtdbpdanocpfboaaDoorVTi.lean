/- For Truths of package word: what stands in memory while the rows are made. -/
import Derived.Test.YtdbpdanocpfboaaDoorVTv
namespace Go.Proofs.YtdbpdanocpfboaaDoor
open Go.RowKit

/-- the box of a word's places -/
def Box2 (w : World) (b : Nat) (u v : Value) : Prop := b < w.heap.size ∧ w.cell? ⟨b, 0, none⟩ = some u ∧ w.cell? ⟨b, 1, none⟩ = some v ∧ w.frozen? ⟨b, 0, none⟩ = false ∧ w.frozen? ⟨b, 1, none⟩ = false
theorem Box2.kept {w w' : World} {b : Nat} {u v : Value} (h : Box2 w b u v) (hk : Kept (fun _ => False) w w') : Box2 w' b u v := by
  obtain ⟨h0, h1, h2, h3, h4⟩ := h
  exact ⟨Nat.lt_of_lt_of_le h0 hk.size, (hk.cell (p := ⟨b, 0, none⟩) h0 (fun f => f)).trans h1, (hk.cell (p := ⟨b, 1, none⟩) h0 (fun f => f)).trans h2, (hk.frozen (p := ⟨b, 0, none⟩) h0 (fun f => f)).trans h3, (hk.frozen (p := ⟨b, 1, none⟩) h0 (fun f => f)).trans h4⟩

theorem WordV.kept {B : Nat} {w w' : World} {v : Value} {hd lp : List Int} (h : WordV B w v hd lp) (hk : Kept (fun _ => False) w w') (hB : B ≤ w.heap.size) : WordV B w' v hd lp := by
  obtain ⟨a, b, e, h1, h2⟩ := h
  exact ⟨a, b, e, h1.below (hk.below hB (fun _ f => f.elim)), h2.below (hk.below hB (fun _ f => f.elim))⟩
theorem goodW_len {hd lp : List Int} (hg : goodW hd lp = true) : hd.length + lp.length ≤ 20000 ∧ 0 < lp.length := by
  unfold goodW at hg
  rw [Bool.and_eq_true, Bool.and_eq_true, decide_eq_true_eq] at hg
  refine ⟨hg.1.2, ?_⟩
  cases lp with
  | nil => simp at hg
  | cons a l => simp

theorem RowAt.kept {w w' : World} {b : Nat} {v : Value} {bs : List Bool} (h : RowAt w b v bs) (hk : Kept (fun _ => False) w w') : RowAt w' b v bs := by
  obtain ⟨h0, h1, h2⟩ := h
  refine ⟨h0, Nat.lt_of_lt_of_le h1 hk.size, fun i hi => ?_⟩
  rw [hk.cell (p := ⟨b, i, none⟩) h1 (fun f => f), hk.frozen (p := ⟨b, i, none⟩) h1 (fun f => f)]
  exact h2 i hi
theorem RowAt.set {w : World} {b : Nat} {v : Value} {bs : List Bool} (h : RowAt w b v bs) {p : Addr} (hp : p.block ≠ b) (u : Value) : RowAt (w.setCell p u) b v bs := by
  obtain ⟨h0, h1, h2⟩ := h
  refine ⟨h0, by simpa [World.setCell] using h1, fun i hi => ?_⟩
  rw [World.cell?_setCell_other _ _ _ _ (by rintro rfl; exact hp rfl), World.frozen?_setCell]
  exact h2 i hi

/-- what stands in memory while the rows are made: in rb the rows of the first J Nodes that are still waited for, in cb how often each is -/
structure TI (w7 wr : World) (rb cb M J : Nat) (f : Nat → Int) (oc : Nat → Nat) (RS : List (List Bool)) : Prop where
  kept : Kept (fun k => k = rb ∨ k = cb) w7 wr
  cnt : ∀ k, k < M → wr.cell? ⟨cb, k, none⟩ = some (.int .i64 (f k)) ∧ wr.frozen? ⟨cb, k, none⟩ = false
  row : ∀ k, k < M → ∃ v, wr.cell? ⟨rb, k, none⟩ = some v ∧ wr.frozen? ⟨rb, k, none⟩ = false ∧ (k < J → (0 < f k ∨ oc k = 0) → ∃ b, w7.heap.size ≤ b ∧ RowAt wr b v (RS.getD k []))
  lr : rb < w7.heap.size
  lc : cb < w7.heap.size
  ne : rb ≠ cb

theorem TI.keep {w7 wr w' : World} {rb cb M J : Nat} {f : Nat → Int} {oc : Nat → Nat} {RS : List (List Bool)} (h : TI w7 wr rb cb M J f oc RS) (hk : Kept (fun _ => False) wr w') : TI w7 w' rb cb M J f oc RS := by
  have hr := Nat.lt_of_lt_of_le h.lr h.kept.size
  have hc := Nat.lt_of_lt_of_le h.lc h.kept.size
  refine ⟨h.kept.trans hk (fun _ _ f => f.elim), fun k hkM => ?_, fun k hkM => ?_, h.lr, h.lc, h.ne⟩
  · rw [hk.cell (p := ⟨cb, k, none⟩) hc (fun f => f), hk.frozen (p := ⟨cb, k, none⟩) hc (fun f => f)]
    exact h.cnt k hkM
  · obtain ⟨v, h1, h2, h3⟩ := h.row k hkM
    refine ⟨v, (hk.cell (p := ⟨rb, k, none⟩) hr (fun f => f)).trans h1, (hk.frozen (p := ⟨rb, k, none⟩) hr (fun f => f)).trans h2, fun a b => ?_⟩
    obtain ⟨bb, h4, h5⟩ := h3 a b
    exact ⟨bb, h4, h5.kept hk⟩

theorem TI.setCnt {w7 wr : World} {rb cb M J : Nat} {f g : Nat → Int} {oc : Nat → Nat} {RS : List (List Bool)} (h : TI w7 wr rb cb M J f oc RS) {k : Nat} (hkM : k < M) {v : Int} (hv : v ≤ f k) (hg : ∀ i, i < M → g i = if i = k then v else f i) : TI w7 (wr.setCell ⟨cb, k, none⟩ (.int .i64 v)) rb cb M J g oc RS := by
  have hn := h.ne
  have hlc := h.lc
  refine ⟨h.kept.setCell (fun _ => .inr rfl) _, fun i hi => ?_, fun i hi => ?_, h.lr, h.lc, h.ne⟩
  · rw [cell_set_row (by rw [(h.cnt k hkM).1]; rfl), World.frozen?_setCell, hg i hi]
    refine ⟨?_, (h.cnt i hi).2⟩
    split
    · rfl
    · exact (h.cnt i hi).1
  · obtain ⟨u, h1, h2, h3⟩ := h.row i hi
    refine ⟨u, ?_, by rw [World.frozen?_setCell]; exact h2, fun a b => ?_⟩
    · rw [World.cell?_setCell_other _ _ _ _ (by intro e; cases e; exact hn rfl)]
      exact h1
    · obtain ⟨bb, h4, h5⟩ := h3 a (by
        rcases b with b | b
        · rw [hg i hi] at b
          split at b
          · rename_i e; subst e; exact .inl (by omega)
          · exact .inl b
        · exact .inr b)
      exact ⟨bb, h4, h5.set (by simp only; omega) _⟩

theorem TI.setNil {w7 wr : World} {rb cb M J : Nat} {f : Nat → Int} {oc : Nat → Nat} {RS : List (List Bool)} (h : TI w7 wr rb cb M J f oc RS) {k : Nat} (hkM : k < M) (hf : f k ≤ 0) (ho : oc k ≠ 0) (v : Value) : TI w7 (wr.setCell ⟨rb, k, none⟩ v) rb cb M J f oc RS := by
  have hn := h.ne
  have hlr := h.lr
  obtain ⟨u0, g1, g2, g3⟩ := h.row k hkM
  refine ⟨h.kept.setCell (fun _ => .inl rfl) _, fun i hi => ?_, fun i hi => ?_, h.lr, h.lc, h.ne⟩
  · rw [World.cell?_setCell_other _ _ _ _ (by intro e; cases e; exact hn rfl), World.frozen?_setCell]
    exact h.cnt i hi
  · obtain ⟨u, h1, h2, h3⟩ := h.row i hi
    rw [cell_set_row (by rw [g1]; rfl), World.frozen?_setCell]
    by_cases e : i = k
    · subst e
      refine ⟨v, if_pos rfl, h2, fun _ b => ?_⟩
      rcases b with b | b
      · omega
      · exact absurd b ho
    · refine ⟨u, by rw [if_neg e]; exact h1, h2, fun a b => ?_⟩
      obtain ⟨bb, h4, h5⟩ := h3 a b
      exact ⟨bb, h4, h5.set (by simp only; omega) _⟩

theorem TI.setRow {w7 wr : World} {rb cb M J : Nat} {f : Nat → Int} {oc : Nat → Nat} {RS : List (List Bool)} (h : TI w7 wr rb cb M J f oc RS) (hJ : J < M) {b : Nat} {v : Value} (hb : w7.heap.size ≤ b) (hr : RowAt wr b v (RS.getD J [])) : TI w7 (wr.setCell ⟨rb, J, none⟩ v) rb cb M (J + 1) f oc RS := by
  have hn := h.ne
  have hlr := h.lr
  obtain ⟨u0, g1, g2, g3⟩ := h.row J hJ
  refine ⟨h.kept.setCell (fun _ => .inl rfl) _, fun i hi => ?_, fun i hi => ?_, h.lr, h.lc, h.ne⟩
  · rw [World.cell?_setCell_other _ _ _ _ (by intro e; cases e; exact hn rfl), World.frozen?_setCell]
    exact h.cnt i hi
  · obtain ⟨u, h1, h2, h3⟩ := h.row i hi
    rw [cell_set_row (by rw [g1]; rfl), World.frozen?_setCell]
    by_cases e : i = J
    · subst e
      exact ⟨v, if_pos rfl, h2, fun _ _ => ⟨b, hb, hr.set (by simp only; omega) _⟩⟩
    · refine ⟨u, by rw [if_neg e]; exact h1, h2, fun a b => ?_⟩
      obtain ⟨bb, h4, h5⟩ := h3 (by omega) b
      exact ⟨bb, h4, h5.set (by simp only; omega) _⟩

theorem TI.congr {w7 wr : World} {rb cb M J : Nat} {f g : Nat → Int} {oc : Nat → Nat} {RS : List (List Bool)} (h : TI w7 wr rb cb M J f oc RS) (hg : ∀ i, i < M → g i = f i) : TI w7 wr rb cb M J g oc RS := by
  refine ⟨h.kept, fun k hk => by rw [hg k hk]; exact h.cnt k hk, fun k hk => ?_, h.lr, h.lc, h.ne⟩
  rw [hg k hk]
  exact h.row k hk

theorem infoT : (Tryd.prog.info? 104).map (fun i => (i.zero, i.size, i.bytes)) = some (some (.slice none 0 0), 1, 24) := by kernel_rfl

theorem kidsL_mk {op n : Int} {ids : List Int} (hl : ids.length ≤ 2) (hi : ∀ i ∈ ids, 0 ≤ i) : kidsL (mkNd op n ids) = ids := by
  match ids, hl with
  | [], _ => simp [mkNd, kidsL]
  | [a], _ => have := hi a (by simp); simp [mkNd, kidsL]; omega
  | [a, b], _ =>
    have h1 := hi a (by simp)
    have h2 := hi b (by simp)
    have e1 : a ≠ -1 := by omega
    have e2 : b ≠ -1 := by omega
    simp [mkNd, kidsL, e1, e2]

theorem occ_append (a b : List Nd) (k : Nat) : occ (a ++ b) k = occ a k + occ b k := by unfold occ; rw [List.map_append, List.sum_append]
theorem occ_cons (x : Nd) (b : List Nd) (k : Nat) : occ (x :: b) k = (kidsL x).count (k : Int) + occ b k := by unfold occ; rw [List.map_cons, List.sum_cons]
theorem occ_drop (ns : List Nd) (j : Nat) (x : Nd) (hx : ns[j]? = some x) (k : Nat) : occ (ns.drop j) k = occ (ns.drop (j + 1)) k + (kidsL x).count (k : Int) := by
  obtain ⟨hj, rfl⟩ := List.getElem?_eq_some_iff.1 hx
  rw [List.drop_eq_getElem_cons hj, occ_cons, Nat.add_comm]
theorem occ_take_drop (ns : List Nd) (j k : Nat) : occ ns k = occ (ns.take j) k + occ (ns.drop j) k := by
  rw [← occ_append, List.take_append_drop]
theorem occ_kid (ns : List Nd) (j : Nat) (x : Nd) (hx : ns[j]? = some x) (k : Nat) (hk : (k : Int) ∈ kidsL x) : 0 < occ (ns.drop j) k ∧ occ ns k ≠ 0 := by
  have h1 := occ_drop ns j x hx k
  have h2 := occ_take_drop ns j k
  have h3 : 0 < (kidsL x).count (k : Int) := List.count_pos_iff.2 hk
  omega
theorem ord_kids {ns : List Nd} (ho : Ord ns) {j : Nat} {x : Nd} (hx : ns[j]? = some x) : ∀ i ∈ kidsL x, 0 ≤ i ∧ i < j := by
  obtain ⟨op, n, ids, rfl, hw, hi⟩ := ho j x hx
  obtain ⟨h0, h1, h2, _⟩ := hw
  have := kidC_le h0 h1
  rw [kidsL_mk (by omega) (fun i h => (hi i h).1)]
  exact hi
theorem occ_zero (k : Nat) : ∀ ns : List Nd, (∀ x ∈ ns, (k : Int) ∉ kidsL x) → occ ns k = 0
  | [], _ => rfl
  | x :: r, h => by rw [occ_cons, occ_zero k r (fun y hy => h y (by simp [hy])), List.count_eq_zero.2 (h x (by simp))]
theorem occ_last {ns : List Nd} (ho : Ord ns) : occ ns (ns.length - 1) = 0 := by
  refine occ_zero _ _ (fun x hx hm => ?_)
  obtain ⟨j, hj, rfl⟩ := List.mem_iff_getElem.1 hx
  have := ord_kids ho (List.getElem?_eq_getElem hj) _ hm
  omega

theorem rowOp_len {xs : List Int} {lp : Nat} {op n : Int} {a b : List Bool} (h0 : 0 ≤ op) (h1 : op < 12) (hx : 0 < xs.length) (ha : 0 < kidC op → a.length = xs.length) (hb : 1 < kidC op → b.length = xs.length) : (rowOp xs lp op n a b).length = xs.length := by
  obtain ⟨m, rfl⟩ : ∃ m : Nat, op = m := ⟨op.toNat, by omega⟩
  match m, h1, ha, hb with
  | 0, _, _, _ | 1, _, _, _ | 2, _, _, _ => simp [rowOp]
  | 3, _, ha, _ => have := ha (by decide); simp [rowOp, this]
  | 4, _, ha, hb | 5, _, ha, hb | 6, _, ha, hb => have := ha (by decide); have := hb (by decide); simp [rowOp, *]
  | 7, _, ha, _ => have := ha (by decide); simp [rowOp, this]; omega
  | 8, _, ha, hb | 9, _, ha, hb => have := ha (by decide); have := hb (by decide); simp [rowOp, backRow, *]
  | 10, _, ha, _ | 11, _, ha, _ => have := ha (by decide); simp [rowOp, backRow, this]
  | m + 12, h2, _, _ => omega

theorem rowI_getD (rs : List (List Bool)) (k : Nat) : rowI rs (k : Int) = rs.getD k [] := by
  unfold rowI
  rw [if_neg (by omega)]
  simp

theorem mkNd_op (op n : Int) (ids : List Int) : (mkNd op n ids).op = op := by
  match ids with
  | [] => rfl
  | [a] => rfl
  | a :: b :: _ => rfl

theorem rowsN_rowlen {xs : List Int} {lp : Nat} {ns : List Nd} (ho : Ord ns) (hx : 0 < xs.length) : ∀ (k : Nat), k < ns.length → ((rowsN xs lp ns).getD k []).length = xs.length := by
  intro k
  induction k using Nat.strongRecOn with
  | _ k ih =>
    intro hk
    have hn := List.getElem?_eq_getElem hk
    obtain ⟨op, n, ids, e, hw, hi⟩ := ho k _ hn
    rw [e] at hn
    have hlr := mkNd_lr (op := op) (n := n) hi
    rw [List.getD_eq_getElem?_getD, rowsN_at xs lp ns k _ hn hlr.1 hlr.2, Option.getD_some, mkNd_op]
    obtain ⟨h0, h1, h2, _⟩ := hw
    refine rowOp_len h0 h1 hx (fun h => ?_) (fun h => ?_)
    · match ids, hi, h2 with
      | [], _, h2 => simp at h2; omega
      | [a], hi, _ =>
        have ha := hi a (by simp)
        obtain ⟨m, rfl⟩ : ∃ m : Nat, a = m := ⟨a.toNat, by omega⟩
        have := ih m (by omega) (by omega)
        simpa [mkNd, rowI_getD] using this
      | a :: b :: _, hi, _ =>
        have ha := hi a (by simp)
        obtain ⟨m, rfl⟩ : ∃ m : Nat, a = m := ⟨a.toNat, by omega⟩
        have := ih m (by omega) (by omega)
        simpa [mkNd, rowI_getD] using this
    · match ids, hi, h2 with
      | [], _, h2 => simp at h2; omega
      | [a], hi, h2 => simp at h2; omega
      | a :: b :: _, hi, _ =>
        have ha := hi b (by simp)
        obtain ⟨m, rfl⟩ : ∃ m : Nat, b = m := ⟨b.toNat, by omega⟩
        have := ih m (by omega) (by omega)
        simpa [mkNd, rowI_getD] using this

theorem row62 (w : World) (xb xc lp rb M : Nat) (xs : List Int) (op n : Int) (ids : List Int) (RS : List (List Bool)) (hl : xs.length ≤ 20000) (hlp : lp < xs.length) (hc : ∀ i, (h : i < xs.length) → w.cell? ⟨xb, 0 + i, none⟩ = some (.int .i64 xs[i])) (hw : wellN op n ids.length)
    (hids : ∀ i ∈ ids, ∃ k : Nat, i = k ∧ k < M ∧ ∃ v, w.cell? ⟨rb, k, none⟩ = some v ∧ RowR w v (rowI RS i) ∧ (rowI RS i).length = xs.length) :
    Calls Tryd.prog 62 #[.agg #[.slice (some ⟨xb, 0, none⟩) xs.length xc, .int .i64 (lp : Int)], (mkNd op n ids).v, .slice (some ⟨rb, 0, none⟩) M M] w fun e w' => Post62 w (rowOp xs lp (mkNd op n ids).op (mkNd op n ids).n (rowI RS (mkNd op n ids).l) (rowI RS (mkNd op n ids).r)) e w' := by
  obtain ⟨h0, h1, h2, h3, h4⟩ := hw
  have hn7 : 0 ≤ n ∧ n ≤ 7 := by unfold topN at h4; split at h4 <;> omega
  match ids, h2, hids with
  | [], h2, _ =>
    have hop : op = 0 ∨ op = 1 ∨ op = 2 := by
      obtain ⟨m, rfl⟩ : ∃ m : Nat, op = m := ⟨op.toNat, by omega⟩
      match m, h1, h2 with
      | 0, _, _ | 1, _, _ | 2, _, _ => simp
      | 3, _, h2 | 4, _, h2 | 5, _, h2 | 6, _, h2 | 7, _, h2 | 8, _, h2 | 9, _, h2 | 10, _, h2 | 11, _, h2 => exact absurd h2 (by decide)
      | m + 12, h2, _ => omega
    have := row62_leaf w xb 0 xc lp xs op n (.slice (some ⟨rb, 0, none⟩) M M) hl hc hn7 hop
    simpa [mkNd, Nd.v, rowI_neg] using this
  | [a], h2, hids =>
    obtain ⟨k, rfl, hkM, v, hv, hr, hrl⟩ := hids a (by simp)
    have hop : op = 3 ∨ op = 7 ∨ op = 10 ∨ op = 11 := by
      obtain ⟨m, rfl⟩ : ∃ m : Nat, op = m := ⟨op.toNat, by omega⟩
      match m, h1, h2 with
      | 3, _, _ | 7, _, _ | 10, _, _ | 11, _, _ => simp
      | 0, _, h2 | 1, _, h2 | 2, _, h2 | 4, _, h2 | 5, _, h2 | 6, _, h2 | 8, _, h2 | 9, _, h2 => simp [kidC] at h2
      | m + 12, h2, _ => omega
    have := row62_un w xb 0 xc lp rb M k xs op v _ hl hrl hlp hkM hv hr hop
    simpa [mkNd, Nd.v, rowI_neg] using this
  | [a, b], h2, hids =>
    obtain ⟨k, rfl, hkM, v, hv, hr, hrl⟩ := hids a (by simp)
    obtain ⟨k', rfl, hkM', v', hv', hr', hrl'⟩ := hids b (by simp)
    have hop : op = 4 ∨ op = 5 ∨ op = 6 ∨ op = 8 ∨ op = 9 := by
      obtain ⟨m, rfl⟩ : ∃ m : Nat, op = m := ⟨op.toNat, by omega⟩
      match m, h1, h2 with
      | 4, _, _ | 5, _, _ | 6, _, _ | 8, _, _ | 9, _, _ => simp
      | 0, _, h2 | 1, _, h2 | 2, _, h2 | 3, _, h2 | 7, _, h2 | 10, _, h2 | 11, _, h2 => simp [kidC] at h2
      | m + 12, h2, _ => omega
    have := row62_bi w xb 0 xc lp rb M k k' xs op v v' _ _ hl hrl hrl' hlp hkM hkM' hv hv' hr hr' hop
    simpa [mkNd, Nd.v] using this
  | a :: b :: c :: r, h2, _ => have := kidC_le h0 h1; simp at h2; omega
end Go.Proofs.YtdbpdanocpfboaaDoor
