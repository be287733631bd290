/- What the walk of package nodes keeps: its stack, its numbers, what it has found. -/
import Derived.Test.YtdbpdanocpfboaaDoorVTree
namespace Go.Proofs.YtdbpdanocpfboaaDoor
open Go.RowKit

/-- something to enter, or, if it has been entered, to leave -/
structure Task where
  ent : Bool
  b : Nat
  o : Nat
  t : Tr

def ptrV (b o : Nat) : Value := .pointer (some ⟨b, o, none⟩)
def Task.kl (k : Task) : Nat := if k.ent then k.t.kids.length else 0
def Task.cells (k : Task) : List Value := [ptrV k.b k.o, .bool k.ent, .int .i64 (k.kl : Int)]
def Task.wt (k : Task) : Nat := if k.ent then 1 else 2 * k.t.size
def wts : List Task → Nat
  | [] => 0
  | k :: s => k.wt + wts s
theorem wts_append (a b : List Task) : wts (a ++ b) = wts a + wts b := by
  induction a with
  | nil => simp [wts]
  | cons k s ih => simp [wts, ih]; omega
theorem length_le_wts (st : List Task) : st.length ≤ wts st := by
  induction st with
  | nil => simp
  | cons k s ih =>
    have : 0 < k.wt := by
      unfold Task.wt
      split
      · omega
      · have := k.t.size_pos; omega
    simp [wts]; omega

/-- the tasks to enter the Forms of a row -/
def kidTasks (b o : Nat) : List Tr → List Task
  | [] => []
  | t :: r => ⟨false, b, o, t⟩ :: kidTasks b (o + 3) r
theorem kidTasks_mem {k : Task} : ∀ {l : List Tr} {b o : Nat}, k ∈ kidTasks b o l → k.ent = false ∧ k.t ∈ l
  | t :: r, b, o, h => by
    rcases List.mem_cons.1 h with rfl | h
    · simp
    · have := kidTasks_mem h; exact ⟨this.1, List.mem_cons_of_mem _ this.2⟩
theorem kidTasks_wts (l : List Tr) : ∀ (b o : Nat), wts (kidTasks b o l) = 2 * Tr.sizes l := by
  induction l with
  | nil => intros; rfl
  | cons t r ih => intro b o; simp [kidTasks, wts, ih, Tr.sizes, Task.wt]; omega

section
variable (F : Nat → Nat → Tr → Prop) (root : Tr)
/-- from the top on, ts being what has been numbered: in the end the root alone has been -/
def Val : List Task → List Tr → Prop
  | [], ts => ts = [root]
  | k :: s, ts => F k.b k.o k.t ∧ match k.ent with
    | true => wellN k.t.op k.t.n k.t.kids.length ∧ ∃ ts', ts = ts' ++ k.t.kids ∧ Val s (ts' ++ [k.t])
    | false => Val s (ts ++ [k.t])
def SizeOk : List Task → Prop
  | [] => True
  | k :: s => (∀ k' ∈ s, k'.ent = true → k.t.size < k'.t.size) ∧ SizeOk s
def Bot : List Task → Prop
  | [] => True
  | k :: s => (s = [] → k.t = root) ∧ (s ≠ [] → k.t.size < root.size) ∧ Bot s
/-- each Node's Kids stand ahead of it; it is well formed -/
def Ord (ns : List Nd) : Prop := ∀ (j : Nat) (x : Nd), ns[j]? = some x → ∃ (op n : Int) (ids : List Int), x = mkNd op n ids ∧ wellN op n ids.length ∧ ∀ i ∈ ids, 0 ≤ i ∧ i < j

structure GS (st : List Task) (nums : List Int) (ns : List Nd) (m : Value → Option Value) : Prop where
  ts : ∃ ts, Val F root st ts ∧ Dens ns nums ts ∧ Tr.wells ts
  sz : SizeOk st
  bot : Bot root st
  found : ∀ v x, m v = some x → ∃ b o t, v = ptrV b o ∧ F b o t ∧ ((∃ i : Int, x = .int .i64 i ∧ Den ns i t ∧ t.well) ∨ (x = .int .i64 (-1) ∧ ∃ k ∈ st, k.ent = true ∧ k.b = b ∧ k.o = o ∧ k.t = t))
  wr : root.well → ∀ k ∈ st, k.t.well
  nodes : ∀ j : Nat, j < ns.length → ∃ t, Den ns j t ∧ t.well ∧ (st ≠ [] → t.size < root.size)
  last : st = [] → nums = [(ns.length : Int) - 1]
  ord : Ord ns
  b1 : nums.length + wts st ≤ 2 * root.size
  b2 : ns.length + wts st ≤ 2 * root.size
end

theorem val_kids {F : Nat → Nat → Tr → Prop} {root : Tr} {s : List Task} : ∀ {l : List Tr} {b o : Nat} {ts : List Tr}, (∀ j k, l[j]? = some k → F b (o + j * 3) k) → Val F root s (ts ++ l) → Val F root (kidTasks b o l ++ s) ts
  | [], b, o, ts, _, h => by simpa [kidTasks] using h
  | t :: r, b, o, ts, hF, h => by
    refine ⟨by simpa using hF 0 t (by simp), ?_⟩
    refine val_kids (fun j k hk => ?_) (by simpa using h)
    have := hF (j + 1) k (by simpa using hk)
    rwa [show o + (j + 1) * 3 = o + 3 + j * 3 by omega] at this

section
variable {F : Nat → Nat → Tr → Prop} {root : Tr} {b o : Nat} {t : Tr} {s : List Task} {nums : List Int} {ns : List Nd} {m : Value → Option Value}

theorem ptrV_inj {b o b' o' : Nat} (h : ptrV b o = ptrV b' o') : b = b' ∧ o = o' := by simpa [ptrV] using h

theorem kidC_le {op : Int} (h1 : 0 ≤ op) (h2 : op < 12) : kidC op ≤ 2 := by
  obtain ⟨m, rfl⟩ := Int.eq_ofNat_of_zero_le h1
  match m, h2 with
  | 0, _ | 1, _ | 2, _ | 3, _ | 4, _ | 5, _ | 6, _ | 7, _ | 8, _ | 9, _ | 10, _ | 11, _ => decide
  | m + 12, h2 => omega
theorem wellN_le {op n : Int} {k : Nat} (h : wellN op n k) : k ≤ 2 := by
  have := kidC_le h.1 h.2.1
  have := h.2.2.1
  omega

/-- a Form found is none that is open -/
theorem GS.hit (inj : ∀ {b o t t'}, F b o t → F b o t' → t = t') (h : GS F root (⟨false, b, o, t⟩ :: s) nums ns m) {x : Value} (hm : m (ptrV b o) = some x) :
    ∃ i : Int, x = .int .i64 i ∧ 0 ≤ i ∧ GS F root s (nums ++ [i]) ns m := by
  obtain ⟨ts, hv, hd, hw⟩ := h.ts
  obtain ⟨b', o', t', e, hF, hx⟩ := h.found _ _ hm
  obtain ⟨rfl, rfl⟩ := ptrV_inj e
  obtain ⟨hF0, hv'⟩ := hv
  dsimp only at hF0 hv'
  obtain rfl := inj hF0 hF
  rcases hx with ⟨i, rfl, hden, hwt⟩ | ⟨rfl, k, hk, hent, kb, ko, kt⟩
  · refine ⟨i, rfl, hden.lt.1, ?_⟩
    have hne : s ≠ [] := by
      rintro rfl
      have ht : t = root := h.bot.1 rfl
      subst ht
      obtain ⟨t', hden', hwt', hs⟩ := h.nodes i.toNat (by have := hden.lt; omega)
      have hi : ((i.toNat : Nat) : Int) = i := by have := hden.lt; omega
      rw [hi] at hden'
      have e3 := Den.inj hwt hwt' hden hden'
      subst e3
      have := hs (by simp)
      omega
    have hpos := t.size_pos
    refine ⟨⟨ts ++ [t], hv', Dens.append hd (Dens.one hden), Tr.wells_iff.2 (fun y hy => ?_)⟩, h.sz.2, h.bot.2.2, ?_, fun hr k hk => h.wr hr k (by simp [hk]), fun j hj => ?_, fun e => absurd e hne, h.ord, ?_, ?_⟩
    · rcases List.mem_append.1 hy with hy | hy
      · exact Tr.wells_iff.1 hw y hy
      · simp at hy; subst hy; exact hwt
    · intro v x hvx
      obtain ⟨b2, o2, t2, e2, hF2, hx2⟩ := h.found v x hvx
      refine ⟨b2, o2, t2, e2, hF2, hx2.imp id ?_⟩
      rintro ⟨e3, k, hk, hk2⟩
      refine ⟨e3, k, ?_, hk2⟩
      rcases List.mem_cons.1 hk with rfl | hk
      · simp at hk2
      · exact hk
    · obtain ⟨t2, a1, a2, a3⟩ := h.nodes j hj
      exact ⟨t2, a1, a2, fun _ => a3 (by simp)⟩
    · have := h.b1; simp [wts, Task.wt] at this ⊢; omega
    · have := h.b2; simp [wts, Task.wt] at this ⊢; omega
  · exfalso
    rcases List.mem_cons.1 hk with rfl | hk
    · simp at hent
    · have := h.sz.1 k hk hent
      rw [kt] at this
      simp at this

/-- a Form that is none: the root is none -/
theorem GS.bad (h : GS F root (⟨false, b, o, t⟩ :: s) nums ns m) (hw : ¬ wellN t.op t.n t.kids.length) : ¬ root.well := by
  intro hr
  have := h.wr hr ⟨false, b, o, t⟩ (by simp)
  cases t with
  | mk op n kids => exact hw this.1

theorem GS.enter (h : GS F root (⟨false, b, o, t⟩ :: s) nums ns m) (hw : wellN t.op t.n t.kids.length) {kb ko : Nat} (hk : ∀ j k, t.kids[j]? = some k → F kb (ko + j * 3) k)
    {m' : Value → Option Value} (h1 : m' (ptrV b o) = some (.int .i64 (-1))) (h2 : ∀ v, v ≠ ptrV b o → m' v = m v) : GS F root (kidTasks kb ko t.kids ++ ⟨true, b, o, t⟩ :: s) nums ns m' := by
  obtain ⟨ts, hv, hd, hwt⟩ := h.ts
  obtain ⟨hF0, hv'⟩ := hv
  dsimp only at hF0 hv'
  have hne : kidTasks kb ko t.kids ++ ⟨true, b, o, t⟩ :: s ≠ [] := by simp
  have hsz : ∀ l : List Tr, (∀ k ∈ l, k.size < t.size) → ∀ b' o', SizeOk (kidTasks b' o' l ++ ⟨true, b, o, t⟩ :: s) := by
    intro l
    induction l with
    | nil => intro _ b' o'; exact ⟨fun k' hk' he => h.sz.1 k' hk' he, h.sz.2⟩
    | cons x r ih =>
      intro hl b' o'
      refine ⟨fun k' hk' he => ?_, ih (fun k hk => hl k (by simp [hk])) b' (o' + 3)⟩
      have hx := hl x (by simp)
      rcases List.mem_append.1 hk' with hk' | hk'
      · have := (kidTasks_mem hk').1; rw [this] at he; cases he
      · rcases List.mem_cons.1 hk' with rfl | hk'
        · exact hx
        · have := h.sz.1 k' hk' he; simp at this ⊢; omega
  have hsr : t.size ≤ root.size := by
    by_cases hs : s = []
    · have e : t = root := h.bot.1 hs
      rw [e]; exact Nat.le_refl _
    · have : t.size < root.size := h.bot.2.1 hs
      omega
  have hbot : ∀ l : List Tr, (∀ k ∈ l, k.size < t.size) → ∀ b' o', Bot root (kidTasks b' o' l ++ ⟨true, b, o, t⟩ :: s) := by
    intro l
    induction l with
    | nil => intro _ b' o'; exact h.bot
    | cons x r ih =>
      intro hl b' o'
      refine ⟨fun e => by simp at e, fun _ => ?_, ih (fun k hk => hl k (by simp [hk])) b' (o' + 3)⟩
      have := hl x (by simp)
      simp; omega
  have hkid : ∀ k ∈ t.kids, k.size < t.size := fun k hk => Tr.size_kid hk
  have hwts : wts (kidTasks kb ko t.kids ++ ⟨true, b, o, t⟩ :: s) + 1 = wts (⟨false, b, o, t⟩ :: s) := by
    rw [wts_append, kidTasks_wts]
    cases t with
    | mk op n kids => simp [wts, Task.wt, Tr.size, Tr.kids]; omega
  refine ⟨⟨ts, val_kids hk ⟨hF0, hw, ts, rfl, hv'⟩, hd, hwt⟩, hsz _ hkid _ _, hbot _ hkid _ _, ?_, ?_, fun j hj => ?_, fun e => absurd e hne, h.ord, ?_, ?_⟩
  · intro v x hx
    by_cases e : v = ptrV b o
    · subst e
      rw [h1] at hx
      cases hx
      exact ⟨b, o, t, rfl, hF0, .inr ⟨rfl, ⟨true, b, o, t⟩, by simp, rfl, rfl, rfl, rfl⟩⟩
    · rw [h2 v e] at hx
      obtain ⟨b2, o2, t2, e2, hF2, hx2⟩ := h.found v x hx
      refine ⟨b2, o2, t2, e2, hF2, hx2.imp id ?_⟩
      rintro ⟨e3, k, hk, hk2⟩
      refine ⟨e3, k, ?_, hk2⟩
      rcases List.mem_cons.1 hk with rfl | hk
      · simp at hk2
      · simp [hk]
  · intro hr k hk
    have ht := h.wr hr ⟨false, b, o, t⟩ (by simp)
    rcases List.mem_append.1 hk with hk | hk
    · exact Tr.well_kid ht (kidTasks_mem hk).2
    · rcases List.mem_cons.1 hk with rfl | hk
      · exact ht
      · exact h.wr hr k (by simp [hk])
  · obtain ⟨t2, a1, a2, a3⟩ := h.nodes j hj
    exact ⟨t2, a1, a2, fun _ => a3 (by simp)⟩
  · have := h.b1; omega
  · have := h.b2; omega

theorem GS.leave (h : GS F root (⟨true, b, o, t⟩ :: s) nums ns m) : ∃ pre ids : List Int, nums = pre ++ ids ∧ ids.length = t.kids.length ∧ ids.length ≤ 2 ∧ F b o t ∧
    ∀ (i : Nat) (ns' : List Nd) (m' : Value → Option Value), ((ns' = ns ∧ ns[i]? = some (mkNd t.op t.n ids)) ∨ (ns' = ns ++ [mkNd t.op t.n ids] ∧ i = ns.length)) → m' (ptrV b o) = some (.int .i64 (i : Int)) → (∀ v, v ≠ ptrV b o → m' v = m v) → GS F root s (pre ++ [(i : Int)]) ns' m' := by
  obtain ⟨ts, ⟨hF0, hn, ts', rfl, hv⟩, hd, hw⟩ := h.ts
  dsimp only at hF0 hn hv
  obtain ⟨pre, ids, rfl, hd1, hd2⟩ := hd.split
  dsimp only at hd2
  refine ⟨pre, ids, rfl, hd2.length, by have := wellN_le hn; have := hd2.length; omega, hF0, ?_⟩
  intro i ns' m' hcase hm1 hm2
  have hwt : t.well := by
    cases t with
    | mk op n kids => exact ⟨hn, Tr.wells_iff.2 (fun y hy => Tr.wells_iff.1 hw y (by simp [Tr.kids, hy]))⟩
  have hpre : ns <+: ns' := by
    rcases hcase with ⟨rfl, _⟩ | ⟨rfl, _⟩
    · exact List.prefix_refl _
    · exact List.prefix_append _ _
  have hget : ns'[i]? = some (mkNd t.op t.n ids) := by
    rcases hcase with ⟨rfl, e⟩ | ⟨rfl, e⟩
    · exact e
    · subst e; simp
  have hlen : ns'.length ≤ ns.length + 1 := by
    rcases hcase with ⟨rfl, e⟩ | ⟨rfl, e⟩
    · omega
    · simp
  have hden : Den ns' (i : Int) t := by
    cases t with
    | mk op n kids => exact ⟨i, ids, rfl, hget, hd2.grow hpre⟩
  -- the root's Node is new
  have hroot : s = [] → ns' = ns ++ [mkNd t.op t.n ids] ∧ i = ns.length := by
    intro hs
    rcases hcase with ⟨rfl, e⟩ | hc
    · exfalso
      obtain ⟨t2, a1, a2, a3⟩ := h.nodes i (List.getElem?_eq_some_iff.1 e).1
      have e2 := Den.inj hwt a2 hden a1
      have e3 := a3 (by simp)
      have e4 : t = root := h.bot.1 hs
      rw [← e2, e4] at e3
      omega
    · exact hc
  refine ⟨⟨ts' ++ [t], hv, Dens.append (hd1.grow hpre) (Dens.one hden), Tr.wells_iff.2 (fun y hy => ?_)⟩, h.sz.2, h.bot.2.2, ?_, fun hr k hk => h.wr hr k (by simp [hk]), fun j hj => ?_, ?_, ?_, ?_, ?_⟩
  · rcases List.mem_append.1 hy with hy | hy
    · exact Tr.wells_iff.1 hw y (by simp [hy])
    · simp at hy; subst hy; exact hwt
  · intro v x hx
    by_cases e : v = ptrV b o
    · subst e
      rw [hm1] at hx
      cases hx
      exact ⟨b, o, t, rfl, hF0, .inl ⟨_, rfl, hden, hwt⟩⟩
    · rw [hm2 v e] at hx
      obtain ⟨b2, o2, t2, e2, hF2, hx2⟩ := h.found v x hx
      refine ⟨b2, o2, t2, e2, hF2, ?_⟩
      rcases hx2 with ⟨i2, e3, d3, w3⟩ | ⟨e3, k, hk, hk2⟩
      · exact .inl ⟨i2, e3, d3.grow hpre, w3⟩
      · refine .inr ⟨e3, k, ?_, hk2⟩
        rcases List.mem_cons.1 hk with rfl | hk
        · exfalso
          apply e
          rw [e2, ← hk2.2.1, ← hk2.2.2.1]
        · exact hk
  · by_cases hj' : j < ns.length
    · obtain ⟨t2, a1, a2, a3⟩ := h.nodes j hj'
      exact ⟨t2, a1.grow hpre, a2, fun _ => a3 (by simp)⟩
    · rcases hcase with ⟨rfl, e⟩ | ⟨rfl, e⟩
      · exact absurd hj hj'
      · have : j = i := by simp at hj; omega
        subst this
        exact ⟨t, hden, hwt, fun hs => h.bot.2.1 hs⟩
  · intro hs
    obtain ⟨e1, e2⟩ := hroot hs
    subst hs
    have hp : pre = [] := by
      have hv' : ts' ++ [t] = [root] := hv
      have : ts' = [] := by
        cases ts' with
        | nil => rfl
        | cons a r => simp at hv'
      subst this
      exact hd1
    subst hp
    rw [e1, e2]
    simp
  · intro j x hx
    by_cases hj : j < ns.length
    · obtain ⟨r, rfl⟩ := hpre
      rw [List.getElem?_append_left hj] at hx
      exact h.ord j x hx
    · rcases hcase with ⟨rfl, e⟩ | ⟨rfl, e⟩
      · exact absurd (List.getElem?_eq_some_iff.1 hx).1 hj
      · have hj2 := (List.getElem?_eq_some_iff.1 hx).1
        simp at hj2
        have : j = ns.length := by omega
        subst this
        simp at hx
        refine ⟨t.op, t.n, ids, hx.symm, by rw [hd2.length]; exact hn, fun i hi => ?_⟩
        have := hd2.lt i hi
        omega
  · have := h.b1
    simp [wts, Task.wt] at this ⊢
    omega
  · have := h.b2
    simp [wts, Task.wt] at this ⊢
    omega

/-- the end -/
theorem GS.fin (h : GS F root [] nums ns m) : root.well ∧ nums = [(ns.length : Int) - 1] ∧ Den ns ((ns.length : Int) - 1) root ∧ Ord ns := by
  obtain ⟨ts, hv, hd, hw⟩ := h.ts
  have e : ts = [root] := hv
  subst e
  have hl := h.last rfl
  refine ⟨hw.1, hl, ?_, h.ord⟩
  obtain ⟨i, rest, e, h1, h2⟩ := hd
  rw [hl] at e
  simp at e
  rw [e.1]
  exact h1
end
end Go.Proofs.YtdbpdanocpfboaaDoor
