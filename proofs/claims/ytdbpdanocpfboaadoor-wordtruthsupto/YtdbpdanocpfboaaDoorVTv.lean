/- Walks of package word: Truths. -/
import Derived.Test.YtdbpdanocpfboaaDoorVUses
import Derived.Test.YtdbpdanocpfboaaDoorVPlaces
import Derived.Test.YtdbpdanocpfboaaDoorVRow3
import Derived.Test.YtdbpdanocpfboaaDoorVOf
namespace Go.Proofs.YtdbpdanocpfboaaDoor
open Go.RowKit

/-- the row of a number, if it is one -/
def rowI (rs : List (List Bool)) (i : Int) : List Bool := if i < 0 then [] else rs.getD i.toNat []
/-- the rows of all Nodes -/
def rowsN (xs : List Int) (lp : Nat) (ns : List Nd) : List (List Bool) := ns.foldl (fun rs x => rs ++ [rowOp xs lp x.op x.n (rowI rs x.l) (rowI rs x.r)]) []
theorem rowsN_snoc (xs : List Int) (lp : Nat) (ns : List Nd) (x : Nd) : rowsN xs lp (ns ++ [x]) = rowsN xs lp ns ++ [rowOp xs lp x.op x.n (rowI (rowsN xs lp ns) x.l) (rowI (rowsN xs lp ns) x.r)] := by simp [rowsN]
theorem fold_rows (xs : List Int) (lp : Nat) : ∀ (ns : List Nd) (acc : List (List Bool)), (ns.foldl (fun rs x => rs ++ [rowOp xs lp x.op x.n (rowI rs x.l) (rowI rs x.r)]) acc).length = acc.length + ns.length ∧ acc <+: ns.foldl (fun rs x => rs ++ [rowOp xs lp x.op x.n (rowI rs x.l) (rowI rs x.r)]) acc
  | [], acc => by simp
  | x :: r, acc => by
    obtain ⟨h1, h2⟩ := fold_rows xs lp r (acc ++ [rowOp xs lp x.op x.n (rowI acc x.l) (rowI acc x.r)])
    refine ⟨?_, (List.prefix_append _ _).trans h2⟩
    rw [List.foldl_cons, h1]
    simp
    omega
theorem rowsN_len (xs : List Int) (lp : Nat) (ns : List Nd) : (rowsN xs lp ns).length = ns.length := by simpa [rowsN] using (fold_rows xs lp ns []).1
theorem rowsN_pre (xs : List Int) (lp : Nat) (a b : List Nd) : rowsN xs lp a <+: rowsN xs lp (a ++ b) := by
  have := (fold_rows xs lp b (rowsN xs lp a)).2
  rwa [show rowsN xs lp (a ++ b) = b.foldl (fun rs x => rs ++ [rowOp xs lp x.op x.n (rowI rs x.l) (rowI rs x.r)]) (rowsN xs lp a) by simp [rowsN]]
theorem rowsN_at (xs : List Int) (lp : Nat) (ns : List Nd) (j : Nat) (x : Nd) (hx : ns[j]? = some x) (hl : x.l < j) (hr : x.r < j) : (rowsN xs lp ns)[j]? = some (rowOp xs lp x.op x.n (rowI (rowsN xs lp ns) x.l) (rowI (rowsN xs lp ns) x.r)) := by
  have hj := (List.getElem?_eq_some_iff.1 hx).1
  have e1 : ns.take (j + 1) = ns.take j ++ [x] := by rw [List.take_add_one, hx]; rfl
  have p1 : rowsN xs lp (ns.take (j + 1)) <+: rowsN xs lp ns := by
    have := rowsN_pre xs lp (ns.take (j + 1)) (ns.drop (j + 1))
    rwa [List.take_append_drop] at this
  have p0 : rowsN xs lp (ns.take j) <+: rowsN xs lp ns := by
    have := rowsN_pre xs lp (ns.take j) (ns.drop j)
    rwa [List.take_append_drop] at this
  have hlen : (rowsN xs lp (ns.take j)).length = j := by rw [rowsN_len, List.length_take]; omega
  have hI : ∀ i : Int, i < j → rowI (rowsN xs lp (ns.take j)) i = rowI (rowsN xs lp ns) i := fun i hi => by
    unfold rowI
    split
    · rfl
    · rw [List.getD_eq_getElem?_getD, List.getD_eq_getElem?_getD]
      have hh : i.toNat < (rowsN xs lp (ns.take j)).length := by rw [hlen]; omega
      rw [List.getElem?_eq_getElem hh, get_prefix p0 (List.getElem?_eq_getElem hh)]
  refine get_prefix p1 ?_
  rw [e1, rowsN_snoc, List.getElem?_append_right (by omega), hlen, Nat.sub_self, hI _ hl, hI _ hr]
  rfl

mutual
/-- where a formula is true -/
def tvT (xs : List Int) (lp : Nat) : Tr → List Bool
  | .mk op n kids => rowOp xs lp op n ((tvTs xs lp kids).getD 0 []) ((tvTs xs lp kids).getD 1 [])
def tvTs (xs : List Int) (lp : Nat) : List Tr → List (List Bool)
  | [] => []
  | t :: r => tvT xs lp t :: tvTs xs lp r
end
theorem tvTs_len (xs : List Int) (lp : Nat) : ∀ l : List Tr, (tvTs xs lp l).length = l.length
  | [] => by simp [tvTs]
  | t :: r => by simp [tvTs, tvTs_len xs lp r]

theorem mkNd_lr {op n : Int} {ids : List Int} {j : Nat} (hi : ∀ i ∈ ids, 0 ≤ i ∧ i < j) : (mkNd op n ids).l < j ∧ (mkNd op n ids).r < j := by
  match ids with
  | [] => simp [mkNd]; omega
  | [a] => have := hi a (by simp); simp [mkNd]; omega
  | a :: b :: _ => have := hi a (by simp); have := hi b (by simp); simp [mkNd]; omega

theorem rowI_nat (rs : List (List Bool)) (j : Nat) (r : List Bool) (h : rs[j]? = some r) : rowI rs (j : Int) = r := by
  unfold rowI
  rw [if_neg (by omega), List.getD_eq_getElem?_getD]
  simp [h]
theorem rowI_neg (rs : List (List Bool)) : rowI rs (-1) = [] := by simp [rowI]

mutual
theorem rowsN_den (xs : List Int) (lp : Nat) (ns : List Nd) (ho : Ord ns) : ∀ (t : Tr) (i : Int), t.well → Den ns i t → rowI (rowsN xs lp ns) i = tvT xs lp t
  | .mk op n kids, i, hw, hd => by
    obtain ⟨j, ids, rfl, hx, hk⟩ := hd
    have hl := hk.length
    have ih := rowsN_dens xs lp ns ho kids ids hw.2 hk
    obtain ⟨hw0, hw1, hw2, hw3, hw4⟩ := hw.1
    have h2 : ids.length ≤ 2 := by have := kidC_le hw0 hw1; omega
    obtain ⟨op', n', ids', e', hwn, hlt⟩ := ho j _ hx
    have hlr := mkNd_lr (op := op') (n := n') hlt
    rw [← e'] at hlr
    refine rowI_nat _ _ _ ?_
    rw [rowsN_at xs lp ns j _ hx hlr.1 hlr.2, tvT, ← ih]
    match ids, kids, hl, h2, hw2, hw4 with
    | [], [], _, _, _, _ => simp [mkNd, rowI_neg]
    | [a], [s], _, _, hw2, hw4 =>
      have hn : n = 0 := by
        unfold topN at hw4
        split at hw4
        · rename_i e; subst e; simp [kidC] at hw2
        · omega
      simp [mkNd, rowI_neg, hn]
    | [a, b], [s, s'], _, _, hw2, hw4 =>
      have hn : n = 0 := by
        unfold topN at hw4
        split at hw4
        · rename_i e; subst e; simp [kidC] at hw2
        · omega
      simp [mkNd, hn]
theorem rowsN_dens (xs : List Int) (lp : Nat) (ns : List Nd) (ho : Ord ns) : ∀ (l : List Tr) (ids : List Int), Tr.wells l → Dens ns ids l → ids.map (rowI (rowsN xs lp ns)) = tvTs xs lp l
  | [], ids, _, h => by rw [show ids = [] from h]; simp [tvTs]
  | t :: r, ids, hw, h => by
    obtain ⟨i, rest, rfl, h1, h2⟩ := h
    rw [List.map_cons, rowsN_den xs lp ns ho t i hw.1 h1, rowsN_dens xs lp ns ho r rest hw.2 h2, tvTs]
end
end Go.Proofs.YtdbpdanocpfboaaDoor
