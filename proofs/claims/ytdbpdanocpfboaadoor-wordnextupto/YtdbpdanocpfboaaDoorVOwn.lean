/- What is appended to a list of one's own. -/
import Derived.Test.YtdbpdanocpfboaaDoorVLeast
namespace Go.Proofs.YtdbpdanocpfboaaDoor
open Go.RowKit

theorem add_cell (b o j : Nat) : (⟨b, o, none⟩ : Addr).add j = ⟨b, o + j, none⟩ := by
  unfold Addr.add
  by_cases h0 : j = 0
  · subst h0; simp
  · simp [h0]

theorem step_append_iown {ops : Array Oper} {o : Oper} {a : Act} {w : World} {K : Act → World → Prop} {Q : Exit → Act → World → Prop} {E : Prop} {B : Nat} {xs ys : List Int} {v : Value} {ad : Option Addr} {c : Nat} (base n m : Nat) (hm : ys.length = m) (h0 : 0 < n + m) (h1 : n + m ≤ 40000)
    (hg : o.guard = none) (s x : Operand) (hop : o.op = Op.call { callee := Callee.builtin Builtin.append, args := #[s, x], argTypes := #[46, 46] }) (hs : a.eval s = v) (hx : a.eval x = .slice ad m c) (had : ∃ p, ad = some p)
    (hown : w.ownsRow base 3 1 v n (xs.map (Value.int .i64))) (hv : IntsV B w (.slice ad m c) ys) (hbase : base ≤ w.heap.size)
    (hK : ∀ g cap w', w'.ownsRow base 3 1 (.slice (some ⟨g, 0, none⟩) (n + m) cap) (n + m) ((xs ++ ys).map (Value.int .i64)) → w.grownBy w' v.ownBlock → base ≤ g → K (a.put o.dst (.slice (some ⟨g, 0, none⟩) (n + m) cap)) w') : if Region.wanted o (yielded ops a.tmps) = true then Oper.wp Tryd.prog o a w K Q else E := by
  obtain ⟨i0, hi, hz0, hz1, hz2⟩ := info_parts infoI
  obtain ⟨p, rfl⟩ := had
  refine step_append_own hg s x 46 hop base 3 i0 (.int .i64 0) 1 8 Tryd.underlying46 hi hz0 hz1 hz2 rfl (by decide) v n _ hs hown p m c (ys.map (Value.int .i64)) hx (by simp [hm]) ?_ ?_ (by unfold maxLen; omega) (by omega) hbase ?_
  · intro j u hu
    simp only [List.getElem?_map, Option.map_eq_some_iff] at hu
    obtain ⟨y, hy, rfl⟩ := hu
    obtain ⟨a', c', e, _, _, hc⟩ := hv
    cases e
    obtain ⟨b, off, e2, _, hcell⟩ := hc j y hy
    cases e2
    rw [add_cell]
    exact hcell
  · intro u hu
    simp only [List.mem_map] at hu
    obtain ⟨y, _, rfl⟩ := hu
    rfl
  · intro v' w' ho hgr _
    obtain ⟨k, hk⟩ : ∃ k, n + m = k + 1 := ⟨n + m - 1, by omega⟩
    have ho' := ho
    rw [hk] at ho'
    obtain ⟨g, cap, rfl⟩ := ownsRow_form ho'
    rw [← hk] at ho ⊢
    have hb := (ownsRow_lt ho (k := g) rfl).2
    refine hK g cap w' ?_ hgr hb
    rw [List.map_append]
    exact ho
end Go.Proofs.YtdbpdanocpfboaaDoor
