import Derived.Test.YtdbpdanocpfboaaDoorZBun10
/- What is plain, laid out: Plain, the walk. -/
namespace Go.Proofs.YtdbpdanocpfboaaDoor
open Go.RowKit

theorem of49w (w : World) (B : Nat) (v : Value) (t : Tr) (ht : t.well) (hv : FormV B w v t) (hB : B ≤ w.heap.size) (hT : TabK w) (hB2 : 2 ≤ B) (hsz : t.size ≤ 268435456) :
    Calls Tryd.prog 49 #[v] w fun e w' => ∃ L bm nv ns, e = .returned (.tuple #[.pointer (some ⟨L, 0, none⟩), .bool true]) ∧ Kept (fun _ => False) w w' ∧ LIn w' (w.heap.size + 1) L bm nv ns ∧ Den ns ((ns.length : Int) - 1) t ∧ Ord ns ∧ ns.length ≤ 2 * t.size := by
  refine (of49 w B v t hv hB hT hB2 hsz).mono ?_
  rintro e w' ⟨hk, ⟨h, _⟩ | ⟨_, L, bm, nv, ns, rfl, h1, h2, h3, h4⟩⟩
  · exact absurd ht h
  · exact ⟨L, bm, nv, ns, rfl, hk, h1, h2, h3, h4⟩
theorem of49n (w : World) (B : Nat) (v : Value) (t : Tr) (ht : ¬ t.well) (hv : FormV B w v t) (hB : B ≤ w.heap.size) (hT : TabK w) (hB2 : 2 ≤ B) (hsz : t.size ≤ 268435456) :
    Calls Tryd.prog 49 #[v] w fun e w' => e = .returned (.tuple #[.pointer none, .bool false]) ∧ Kept (fun _ => False) w w' := by
  refine (of49 w B v t hv hB hT hB2 hsz).mono ?_
  rintro e w' ⟨hk, ⟨_, rfl⟩ | ⟨h, _⟩⟩
  · exact ⟨rfl, hk⟩
  · exact absurd h ht
theorem TabK.kept {w w' : World} (h : TabK w) {S : Nat → Prop} (hk : Kept S w w') (hs : ¬ S 1) : TabK w' := fun j hj => (hk.cell (p := ⟨1, j, none⟩) (lt_of_cell (h j hj)) hs).trans (h j hj)
theorem cell_made2 {w : World} (z : Value) (n : Nat) (t : TypeId) {j : Nat} (hj : j < n) : (w.alloc (.cells (madeCells #[z, z] n) t)).cell? ⟨w.heap.size, j, none⟩ = some z := by
  rw [World.cell?_alloc_new]
  rcases Nat.mod_two_eq_zero_or_one j with h | h <;> simp [madeCells, hj, h]
theorem Dens.dones {w : World} {dg dn : Nat} {ns : List Nd} {fs : List Nd} : ∀ {ids : List Int} {kids : List Tr}, Dens fs ids kids → (∀ i t, i ∈ ids → t ∈ kids → Den fs i t → DoneAt w dg dn ns i t) → Dones w dg dn ns ids kids
  | ids, [], h, _ => by rw [show ids = [] from h]; trivial
  | ids, t :: r, h, hd => by
    obtain ⟨i, rest, rfl, h1, h2⟩ := h
    exact ⟨hd i t (by simp) (by simp) h1, Dens.dones h2 (fun i t hi ht => hd i t (by simp [hi]) (by simp [ht]))⟩
theorem LRead.keep2 {w w' : World} {L : Nat} {ns : List Nd} (h : LRead w L ns) (hk : Kept (fun k => w.heap.size ≤ k) w w') : LRead w' L ns := by
  obtain ⟨a, c, h1, h2, h3⟩ := h
  have hn : ∀ k, k < w.heap.size → ¬ w.heap.size ≤ k := fun k hk => by omega
  refine ⟨a, c, (hk.cell (p := ⟨L, 0, none⟩) (lt_of_cell h1) (hn _ (lt_of_cell h1))).trans h1, h2, fun j x hx => ?_⟩
  obtain ⟨g, e, a0, a1, a2, a3⟩ := h3 j x hx
  exact ⟨g, e, (hk.cell (p := ⟨g, j * 4, none⟩) (lt_of_cell a0) (hn _ (lt_of_cell a0))).trans a0, (hk.cell (p := ⟨g, j * 4 + 1, none⟩) (lt_of_cell a1) (hn _ (lt_of_cell a1))).trans a1,
    (hk.cell (p := ⟨g, j * 4 + 2, none⟩) (lt_of_cell a2) (hn _ (lt_of_cell a2))).trans a2, (hk.cell (p := ⟨g, j * 4 + 3, none⟩) (lt_of_cell a3) (hn _ (lt_of_cell a3))).trans a3⟩
theorem kidC_le2 {o : Int} (h1 : 0 ≤ o) (h2 : o < 12) : kidC o ≤ 2 := by
  obtain ⟨m, rfl⟩ := Int.eq_ofNat_of_zero_le h1
  match m, h2 with
  | 0, _ | 1, _ | 2, _ | 3, _ | 4, _ | 5, _ | 6, _ | 7, _ | 8, _ | 9, _ | 10, _ | 11, _ => decide
  | m + 12, h2 => omega
theorem LIn.base {w : World} {base base' L bm : Nat} {nv : Value} {ns : List Nd} (h : LIn w base L bm nv ns) (hb : base' ≤ base) : LIn w base' L bm nv ns :=
  { h with
    own := ⟨h.own.1, h.own.2.imp id (fun ⟨g, cap, cur, e, hg, r⟩ => ⟨g, cap, cur, e, Nat.le_trans hb hg, r⟩)⟩
    bL := Nat.le_trans hb h.bL
    bM := Nat.le_trans hb h.bM }
theorem Grown.pre' {c : Lc} {k : Nat} {w W W' : World} {nv nv' : Value} {ns ns' : List Nd} (g : Grown c k W nv ns W' nv' ns') (hk : Kept (fun _ => False) w W) : Grown c k w nv ns W' nv' ns' :=
  { g with own := fun j hj => (g.own j hj).imp id (fun h => Nat.le_trans hk.size h), kept := (hk.mono (T := LSet c.L c.bm nv) (fun _ _ f => f.elim)).trans g.kept (fun _ _ e => e) }
theorem PI.not7 {base L bm b7 dg m : Nat} {w2 W4 : World} {fs : List Nd} {j : Nat} {wr : World} {nv : Value} {ns : List Nd} (h : PI base L bm b7 dg m w2 W4 fs j wr nv ns) {x : Nat} (h1 : x ≠ L) (h2 : x ≠ bm) (h3 : x < W4.heap.size) : ¬ LSet L bm nv x := not_ls h1 h2 (fun e => by have := h.own x e; omega)
/-- the row, one more done -/
theorem PI.next {base L bm b7 dg m : Nat} {w2 W4 : World} {fs : List Nd} {j : Nat} {wr W Wb : World} {nv nv' : Value} {ns ns' : List Nd} {p q : Int} {tj : Tr} (h : PI base L bm b7 dg m w2 W4 fs j wr nv ns) (hj : j < m) (htj : tj.well) (hdj : Den fs (j : Int) tj)
    (g : FinA base L bm dg j wr nv ns (plainT tj false) (plainT tj true) W Wb nv' ns' p q) (h7L : b7 ≠ L) (h7m : b7 ≠ bm) (h7d : b7 ≠ dg) (h74 : b7 < W4.heap.size) (hdL : dg ≠ L) (hdm : dg ≠ bm) (hd4 : dg < W4.heap.size) (hbd : base ≤ dg) : PI base L bm b7 dg m w2 W4 fs (j + 1) W nv' ns' := by
  have n7 := h.not7 h7L h7m h74
  have nd := h.not7 hdL hdm hd4
  have hs := h.size
  have hdw : dg < wr.heap.size := by omega
  have hdb : dg < Wb.heap.size := Nat.lt_of_lt_of_le hdw g.g.kept.size
  have hcd : ∀ i, Wb.cell? ⟨dg, i, none⟩ = wr.cell? ⟨dg, i, none⟩ := fun i => g.g.kept.cell (p := ⟨dg, i, none⟩) hdw nd
  have hfd : ∀ i, Wb.frozen? ⟨dg, i, none⟩ = wr.frozen? ⟨dg, i, none⟩ := fun i => g.g.kept.frozen (p := ⟨dg, i, none⟩) hdw nd
  have hdn : some dg ≠ nv'.ownBlock := fun e => by
    rcases g.g.own dg e with e | e
    · exact nd (.inr (.inr e))
    · omega
  exact
    { kept := (h.kept.trans g.g.kept (fun k hk e => by
        rcases e with e | e | e
        · rw [e]; exact h.li.bL
        · rw [e]; exact h.li.bM
        · have := h.own k e
          omega)).trans g.k (fun k _ e => by rw [e]; exact hbd)
      box := (g.k.cell (p := ⟨b7, 0, none⟩) (Nat.lt_of_lt_of_le (lt_of_cell h.box) g.g.kept.size) h7d).trans ((g.g.kept.cell (p := ⟨b7, 0, none⟩) (lt_of_cell h.box) n7).trans h.box)
      li := g.g.li.keep g.k (by
        rintro k (e | e | e) rfl
        · exact hdL e
        · exact hdm e
        · exact hdn e)
      ord := g.g.ord
      len := by have := g.g.len; have := h.len; omega
      nd := g.g.nd h.nd
      own := fun k hk => by
        rcases g.g.own k hk with e | e
        · exact h.own k e
        · omega
      done := fun k hk => by
        by_cases e : k = j
        · subst e
          exact ⟨p, q, g.c0, g.c1, fun t ht hd => by rw [Den.inj ht htj hd hdj]; exact ⟨g.d1, g.d2⟩⟩
        · obtain ⟨p', q', c0, c1, hd⟩ := h.done k (by omega)
          exact ⟨p', q', (g.oth _ (by omega) (by omega)).trans ((hcd _).trans c0), (g.oth _ (by omega) (by omega)).trans ((hcd _).trans c1), fun t ht hdt => ⟨(hd t ht hdt).1.grow g.g.pre, (hd t ht hdt).2.grow g.g.pre⟩⟩
      row := fun i hi => by
        refine ⟨?_, (g.fr i).trans ((hfd i).trans (h.row i hi).2)⟩
        by_cases e0 : i = j * 2
        · rw [e0, g.c0]; rfl
        · by_cases e1 : i = j * 2 + 1
          · rw [e1, g.c1]; rfl
          · rw [g.oth i e0 e1, hcd]; exact (h.row i hi).1
      size := Nat.le_trans hs (Nat.le_trans g.g.kept.size g.k.size) }
def Post53 (w : World) (t : Tr) (e : Ending) (w' : World) : Prop := Kept (fun _ => False) w w' ∧ ((¬ t.well ∧ e = .returned (.tuple #[.pointer none, .int .i64 0, .bool false])) ∨
      (t.well ∧ ∃ L bm nv ns i, e = .returned (.tuple #[.pointer (some ⟨L, 0, none⟩), .int .i64 i, .bool true]) ∧ LIn w' w.heap.size L bm nv ns ∧ Den ns i (plainT t false) ∧ Ord ns ∧ ns.length ≤ 8 * t.size ∧ ns.Nodup))

set_option maxRecDepth 100000 in
set_option maxHeartbeats 4000000 in
theorem plain53n (w : World) (B : Nat) (v : Value) (t : Tr) (ht : ¬ t.well) (hv : FormV B w v t) (hB : B ≤ w.heap.size) (hT : TabK w) (hB2 : 3 ≤ B) (hsz : t.size ≤ 16777216) :
    Calls Tryd.prog 53 #[v] w fun e w' => Post53 w t e w' := by
  have HN : Hid (¬ t.well) := ht
  obtain ⟨op, n, ka, kl, kc, rfl⟩ : ∃ op n ka kl kc, v = .agg #[.int .i64 op, .int .i64 n, .slice ka kl kc] := by
    obtain ⟨op, n, kids⟩ := t
    obtain ⟨ka, kb, ko, kc, rfl, _⟩ := hv
    exact ⟨_, _, _, _, _, rfl⟩
  have k1 : Kept (fun _ => False) w (w.alloc (.cells #[.int .i64 op, .int .i64 n, .slice ka kl kc] 24)) := (Kept.refl _ _).alloc _
  have HV1 : Hid (FormV B (w.alloc (.cells #[.int .i64 op, .int .i64 n, .slice ka kl kc] 24)) (.agg #[.int .i64 op, .int .i64 n, .slice ka kl kc]) t) := hv.below (k1.below hB (fun _ f => f.elim))
  have HT1 : Hid (TabK (w.alloc (.cells #[.int .i64 op, .int .i64 n, .slice ka kl kc] 24))) := hT.kept k1 (fun f => f)
  have hB1 : B ≤ (w.alloc (.cells #[.int .i64 op, .int .i64 n, .slice ka kl kc] 24)).heap.size := Nat.le_trans hB k1.size
  clear hv ht
  go_enter Tryd.func53, Tryd.ntmps53
  go_wp2_with (go_at_call 49; refine (of49n _ B _ t HN.out HV1.out hB1 HT1.out (by omega) (by omega)).mono ?_; rintro e w2 ⟨rfl, k2⟩)
  exact bodyPost_ret (v := .tuple #[.pointer none, .int .i64 0, .bool false]) (by simp [results, Tryd.results53, go_sem]) rfl ⟨k1.trans k2 (fun _ _ f => f), .inl ⟨HN.out, rfl⟩⟩

set_option maxRecDepth 100000 in
set_option maxHeartbeats 4000000 in
theorem plain53w (w : World) (B : Nat) (v : Value) (t : Tr) (ht : t.well) (hv : FormV B w v t) (hB : B ≤ w.heap.size) (hT : TabK w) (hTt : TabT w) (hB2 : 3 ≤ B) (hsz : t.size ≤ 16777216) :
    Calls Tryd.prog 53 #[v] w fun e w' => Post53 w t e w' := by
  have HW : Hid (t.well) := ht
  obtain ⟨op, n, ka, kl, kc, rfl⟩ : ∃ op n ka kl kc, v = .agg #[.int .i64 op, .int .i64 n, .slice ka kl kc] := by
    obtain ⟨op, n, kids⟩ := t
    obtain ⟨ka, kb, ko, kc, rfl, _⟩ := hv
    exact ⟨_, _, _, _, _, rfl⟩
  have k1 : Kept (fun _ => False) w (w.alloc (.cells #[.int .i64 op, .int .i64 n, .slice ka kl kc] 24)) := (Kept.refl _ _).alloc _
  have HV1 : Hid (FormV B (w.alloc (.cells #[.int .i64 op, .int .i64 n, .slice ka kl kc] 24)) (.agg #[.int .i64 op, .int .i64 n, .slice ka kl kc]) t) := hv.below (k1.below hB (fun _ f => f.elim))
  have HT1 : Hid (TabK (w.alloc (.cells #[.int .i64 op, .int .i64 n, .slice ka kl kc] 24))) := hT.kept k1 (fun f => f)
  have hB1 : B ≤ (w.alloc (.cells #[.int .i64 op, .int .i64 n, .slice ka kl kc] 24)).heap.size := Nat.le_trans hB k1.size
  clear hv ht
  go_enter Tryd.func53, Tryd.ntmps53
  go_upto_region 4 with (go_at_call 49; refine (of49w _ B _ t HW.out HV1.out hB1 HT1.out (by omega) (by omega)).mono ?_; rintro e w2 ⟨L0, bm0, nv0, fs, rfl, k2, hL0, hden, hord, hfl⟩)
  have k02 : Kept (fun _ => False) w w2 := k1.trans k2 (fun _ _ f => f)
  have HR : Hid (LRead w2 L0 fs) := hL0.read
  have l0 : L0 < w2.heap.size := lt_of_cell hL0.c0
  have HD : Hid (Den fs ((fs.length : Int) - 1) t) := hden
  have HO : Hid (Ord fs) := hord
  have hpos : 0 < fs.length := by
    have := hden.lt
    omega
  clear hL0 hden hord k2 HV1 HT1 hB1
  go_upto_region 5 with (go_at_call 79; refine (new79 _).mono ?_; rintro e w3 ⟨rfl, rfl⟩)
  obtain ⟨W3, hW3⟩ : ∃ W3, W3 = (((w2.alloc (.map #[] 0)).alloc (.cells #[.slice none 0 0, .map (some w2.heap.size)] 128)).alloc (.cells #[.pointer (some ⟨w2.heap.size + 1, 0, none⟩)] 145)) := ⟨_, rfl⟩
  have k23 : Kept (fun _ => False) w2 W3 := by rw [hW3]; exact (((Kept.refl _ _).alloc _).alloc _).alloc _
  have hh : W3.heap = ((w2.heap.push (.map #[] 0)).push (.cells #[.slice none 0 0, .map (some w2.heap.size)] 128)).push (.cells #[.pointer (some ⟨w2.heap.size + 1, 0, none⟩)] 145) := by rw [hW3]; rfl
  have HS3 : Hid (W3.heap.size = w2.heap.size + 3) := by rw [Hid, hh]; simp
  have g0 : W3.heap[w2.heap.size]? = some (.map #[] 0) := by rw [hh]; exact (push3 _ _ _ _).1
  have g1 : W3.heap[w2.heap.size + 1]? = some (.cells #[.slice none 0 0, .map (some w2.heap.size)] 128 (0, 0)) := by rw [hh]; exact (push3 _ _ _ _).2.1
  have g2 : W3.heap[w2.heap.size + 1 + 1]? = some (.cells #[.pointer (some ⟨w2.heap.size + 1, 0, none⟩)] 145 (0, 0)) := by rw [hh]; exact (push3 _ _ _ _).2.2
  rw [← hW3]
  clear hW3 hh
  have HLI : Hid (LIn W3 w2.heap.size (w2.heap.size + 1) w2.heap.size (.slice none 0 0) []) :=
    { c0 := by simp [World.cell?, g1]
      c1 := by simp [World.cell?, g1]
      f0 := by simp [World.frozen?, g1]
      own := World.ownsRow_nil _ _ _ _
      map := ⟨fun _ => none, ⟨#[], 0, g0, by simp, by simp, by simp, by simp⟩, fun x => by simp [numOf]⟩
      sepL := by simp [Value.ownBlock]
      sepM := by simp [Value.ownBlock]
      bL := by omega
      bM := by omega
      len := by simp }
  have hbx : W3.cell? ⟨w2.heap.size + 1 + 1, 0, none⟩ = some (.pointer (some ⟨w2.heap.size + 1, 0, none⟩)) := by simp [World.cell?, g2]
  clear g0 g1 g2
  obtain ⟨ls, lcc, hL0, _⟩ := id (LRead.kept HR.out k23)
  obtain ⟨i0, hi, hz0, hz1, hz2⟩ := info_parts info148
  have hmk : ∀ u : World, (Instr.makeSlice 146 (.int .i64 (fs.length : Int)) (.int .i64 (fs.length : Int))).run Tryd.prog u = .ok (.slice (some ⟨u.heap.size, 0, none⟩) fs.length fs.length) (u.alloc (.cells (madeCells #[.int .i64 0, .int .i64 0] (fs.length * 2)) 148)) := fun u => by
    have hh := run_make (P := Tryd.prog) u 146 148 i0 (.agg #[.int .i64 0, .int .i64 0]) Tryd.underlying146 hi hz0 .i64 .i64 (fs.length : Int) (fs.length : Int) (by omega) (Int.le_refl _) (by rw [hz2]; omega) (by omega)
    simpa [hz1, Value.cells] using hh
  clear hi hz0 hz1 hz2
  go_upto_region 6 with (go_at_call 50; refine (len50 _ L0 ls fs.length lcc hL0).mono ?_; rintro e w' ⟨rfl, hw⟩; subst w')
  obtain ⟨W4, hW4⟩ : ∃ W4, W4 = W3.alloc (.cells (madeCells #[.int .i64 0, .int .i64 0] (fs.length * 2)) 148) := ⟨_, rfl⟩
  have k34 : Kept (fun _ => False) W3 W4 := by rw [hW4]; exact (Kept.refl _ _).alloc _
  have hs4 : W3.heap.size < W4.heap.size := by rw [hW4]; simp
  have hrow : ∀ i, i < fs.length * 2 → (W4.cell? ⟨W3.heap.size, i, none⟩).isSome = true ∧ W4.frozen? ⟨W3.heap.size, i, none⟩ = false := fun i hi => by
    rw [hW4]
    exact ⟨by rw [cell_made2 _ _ _ hi]; rfl, by simp⟩
  rw [← hW4]
  clear hW4 hmk hL0
  have HPI : Hid (PI w2.heap.size (w2.heap.size + 1) w2.heap.size (w2.heap.size + 1 + 1) W3.heap.size fs.length w2 W4 fs 0 W4 (.slice none 0 0) []) :=
    { kept := ((k23.mono (T := fun k => w2.heap.size ≤ k) (fun _ _ f => f.elim)).trans k34 (fun _ _ f => f.elim))
      box := (k34.cell (p := ⟨w2.heap.size + 1 + 1, 0, none⟩) (lt_of_cell hbx) (fun f => f)).trans hbx
      li := HLI.out.keep k34 (fun _ _ f => f)
      ord := fun j x hx => by simp at hx
      len := by simp
      nd := by simp
      own := fun k hk => by cases hk
      done := fun k hk => absurd hk (by omega)
      row := hrow
      size := Nat.le_refl _ }
  have hb7 : w2.heap.size + 1 + 1 < W3.heap.size := by have := HS3.out; omega
  clear HLI hbx hrow k34
  have HR2 : Hid (∀ W, Kept (fun k => w2.heap.size ≤ k) w2 W → LRead W L0 fs) := fun W hk => HR.out.keep2 hk
  have HT2 : Hid (TabT w2) := hTt.kept k02 (fun f => f)
  have hw2 : 3 ≤ w2.heap.size := Nat.le_trans hB2 (Nat.le_trans hB k02.size)
  have hdg4 : W3.heap.size < W4.heap.size := hs4
  clear hs4 HS3
  generalize W3.heap.size = dg at *
  generalize hbz : w2.heap.size = bz at *
  have HBZ : Hid (w2.heap.size = bz) := hbz
  clear hbz
  go_wp2_with fail
  go_loopw [9, 24] (fun _ i wr => ∃ (j : Nat) (nv : Value) (ns : List Nd), j ≤ fs.length ∧ i = .int .i64 j ∧ PI bz (bz + 1) bz (bz + 1 + 1) dg fs.length w2 W4 fs j wr nv ns) (fun _ i _ => fs.length - (intOf i).toNat)
  case atStart => exact ⟨0, _, _, Nat.zero_le _, rfl, HPI.out⟩
  case round =>
    obtain ⟨j, nv, ns, hj, rfl, hpi⟩ := hrel
    by_cases hlt : j < fs.length
    · have HP : Hid (PI bz (bz + 1) bz (bz + 1 + 1) dg fs.length w2 W4 fs j wr nv ns) := hpi
      obtain ⟨tj, htj, hdj⟩ := ord_den HO.out (j + 1) j (by omega) hlt
      obtain ⟨o, nn, ks⟩ := tj
      obtain ⟨j', ids, ej, hx, hks⟩ := hdj
      obtain rfl : j = j' := by omega
      have HX : Hid (fs[j]? = some (mkNd o nn ids)) := hx
      have HKS : Hid (Dens fs ids ks) := hks
      have HTJ : Hid ((Tr.mk o nn ks).well) := htj
      have hlti : (j : Int) < (fs.length : Int) := by omega
      clear hpi hx hks htj ej HPI
      go_upto_region 9 with fail
      have hsz4 := HP.out.size
      have hdgw : dg < wr.heap.size := by omega
      have n7 := HP.out.not7 (x := bz + 1 + 1) (by omega) (by omega) (by omega)
      have nd := HP.out.not7 (x := dg) (by omega) (by omega) (by omega)
      have hbox := HP.out.box
      refine wp_region_F (JP bz (bz + 1) bz dg j wr nv ns (plainT (.mk o nn ks) false) (plainT (.mk o nn ks) true)) (leI bz (bz + 1) bz) [27, 28, 29, 30, 31, 32, 33, 34, 35, 46]
        (srR bz (bz + 1) bz (plainT (.mk o nn ks) false) (plainT (.mk o nn ks) true) [.val (.slice (some ⟨dg, 0, none⟩) fs.length fs.length), .val (.int .i64 (j : Int)), .val (.agg #[.pointer (some ⟨bz + 1, 0, none⟩)]), .val (.pointer (some ⟨L0, 0, none⟩)), .val (.int .i64 (j : Int)), .val (mkNd o nn ids).v, .val (.slice (some ⟨dg, 0, none⟩) fs.length fs.length), .res, .val (.pointer (some ⟨dg, j * 2, none⟩)), .val undef])
        (by kernel_rfl) rfl (by decide) rfl (by kernel_rfl) ?hJ0 (fun _ _ _ _ hk h => Sr.mono hk h)
        ⟨stepP_pure (by decide) (by decide) rfl (fun a W F hJ hq hd => by
            have e0 := hq 8 (by decide)
            revert e0; generalize a.eval = ρ; intro e0
            simp [execOp, go_sem, e0]),
         stepP_pure (by decide) (by decide) rfl (fun a W F hJ hq hd => by
            have e0 := hq 9 (by decide)
            revert e0; generalize a.eval = ρ; intro e0
            simp [execOp, go_sem, e0]),
         stepP_pure (by decide) (by decide) rfl (fun a W F hJ hq hd => by
            have e0 := hq 7 (by decide)
            have hc := (hJ.kept.cell (p := ⟨bz + 1 + 1, 0, none⟩) (lt_of_cell hbox) (by rintro (e | e); exact n7 e; simp only at e; omega)).trans hbox
            revert e0; generalize a.eval = ρ; intro e0
            simp [execOp, go_sem, e0, hc]),
         stepP_pure (by decide) (by decide) rfl (fun a W F hJ hq hd => by
            have e0 := hq 5 (by decide)
            revert e0; generalize a.eval = ρ; intro e0
            simp [execOp, go_sem, e0]),
         stepP_pure (by decide) (by decide) rfl (fun a W F hJ hq hd => by
            have e0 := hq 9 (by decide)
            revert e0; generalize a.eval = ρ; intro e0
            simp [execOp, go_sem, e0]),
         ?s61,
         stepP_pure (by decide) (by decide) rfl (fun a W F hJ hq hd => by
            have e0 := hq 8 (by decide)
            revert e0; generalize a.eval = ρ; intro e0
            simp [execOp, go_sem, e0]),
         ?s90,
         stepP_pure (by decide) (by decide) rfl (fun a W F hJ hq hd => by
            have e0 := hd ⟨0, .data⟩ (by simp) rfl 27 rfl (of_decide_eq_true rfl) _ rfl
            have e1 := hd ⟨1, .data⟩ (by simp) rfl 28 rfl (of_decide_eq_true rfl) _ rfl
            revert e0 e1; generalize a.eval = ρ; intro e0 e1
            simp [execOp, go_sem, e0, e1]
            exact fun h => absurd h (by omega)),
         ?sst, trivial⟩ ?hend
      case hJ0 => exact ⟨fun e => (by cases e), fun _ e => (by cases e), fun _ => (Kept.refl _ _).drew⟩
      case s61 =>
        intro F a W hF hdn hJ hq hdp K hK
        have e0 : a.eval (.tmp 30) = .pointer (some ⟨L0, 0, none⟩) := hdp ⟨3, .data⟩ (by simp) rfl 30 rfl (of_decide_eq_true rfl)
        have e1 : a.eval (.tmp 31) = .int .i64 (j : Int) := hdp ⟨4, .data⟩ (by simp) rfl 31 rfl (of_decide_eq_true rfl)
        have hf : a.eval (.func 61) = .func (.func 61) #[] #[] := rfl
        have hk2 : Kept (fun k => bz ≤ k) w2 W := HP.out.kept.trans hJ.kept (fun k hk e => by
          rcases e with (e | e | e) | e
          · omega
          · omega
          · have := HP.out.own k e; omega
          · omega)
        refine wp_enter (args := #[.pointer (some ⟨L0, 0, none⟩), .int .i64 (j : Int)]) (W' := W) (f := 61) ?_ (at56r W L0 j fs (mkNd o nn ids) (HR2.out W hk2) HX.out) ?_
        · revert hf e0 e1; generalize a.eval = ρ; intro hf e0 e1
          simp [execOp, go_sem, hf, e0, e1]
        · rintro e W' ⟨rfl, hk⟩
          exact ⟨_, rfl, hK _ W' ((hJ.keep hk).up (by decide) (by decide)) (leI.kept hk) rfl⟩
      case s90 =>
        intro F a W hF hdn hJ hq hdp K hK
        have e0 : a.eval (.tmp 29) = .agg #[.pointer (some ⟨bz + 1, 0, none⟩)] := hdp ⟨2, .data⟩ (by simp) rfl 29 rfl (of_decide_eq_true rfl)
        have e1 : a.eval (.tmp 32) = (mkNd o nn ids).v := hdp ⟨5, .data⟩ (by simp) rfl 32 rfl (of_decide_eq_true rfl)
        have e2 : a.eval (.tmp 33) = .slice (some ⟨dg, 0, none⟩) fs.length fs.length := hdp ⟨6, .data⟩ (by simp) rfl 33 rfl (of_decide_eq_true rfl)
        have hf : a.eval (.func 90) = .func (.func 90) #[] #[] := rfl
        have hk0 : Kept (fun _ => False) wr W := hJ.2.2 hF
        have h9 : F 9 = false := by
          cases h : F 9 with
          | false => rfl
          | true => have := (hJ.1 h).1; rw [hF] at this; cases this
        have hlw := HP.out.len
        have hdones : Dones W dg fs.length ns ids ks := HKS.out.dones (fun i t hi ht hd => by
          obtain ⟨o', n', ids', ex, hw', hi'⟩ := HO.out j _ HX.out
          have hij : 0 ≤ i ∧ i < (j : Int) := by
            have h1 := HKS.out.length
            obtain ⟨_, e, _⟩ := mkNd_inj ex (by
              have := HTJ.out.1.2.2.1
              have h2 := kidC_le2 HTJ.out.1.1 HTJ.out.1.2.1
              omega) (by
              have := hw'.2.2.1
              have h2 := kidC_le2 hw'.1 hw'.2.1
              omega) (fun x hx => (HKS.out.lt x hx).1) (fun x hx => (hi' x hx).1)
            subst e
            exact hi' i hi
          obtain ⟨k, rfl⟩ : ∃ k : Nat, i = (k : Int) := ⟨i.toNat, by omega⟩
          obtain ⟨p, q, c0, c1, hd2⟩ := HP.out.done k (by omega)
          have := hd2 t (Tr.wells_iff.1 HTJ.out.2 t ht) hd
          exact ⟨k, p, q, rfl, by omega, (hk0.cell (p := ⟨dg, k * 2, none⟩) hdgw (fun f => f)).trans c0, (hk0.cell (p := ⟨dg, k * 2 + 1, none⟩) hdgw (fun f => f)).trans c1, this.1, this.2⟩)
        refine wp_enter (args := #[.agg #[.pointer (some ⟨bz + 1, 0, none⟩)], (mkNd o nn ids).v, .slice (some ⟨dg, 0, none⟩) fs.length fs.length]) (W' := W) (f := 90) ?_ (both90 bz (bz + 1) bz 0 W nv ns o nn ids ks dg fs.length fs.length HTJ.out.1 hdones nd (HT2.out.kept (HP.out.kept.trans hk0 (fun _ _ f => f.elim)) (by omega)) hw2 (HP.out.li.keep hk0 (fun _ _ f => f)) HP.out.ord (Nat.le_trans (by omega) hk0.size) (by omega)) ?_
        · revert hf e0 e1 e2; generalize a.eval = ρ; intro hf e0 e1 e2
          simp [execOp, go_sem, hf, e0, e1, e2]
        · rintro e W' ⟨p, q, nv', ns', rfl, hg, d1, d2⟩
          refine ⟨_, rfl, hK _ W' ⟨fun e => ?_, fun _ _ => ⟨nv', ns', p, q, hg.pre' hk0, d1, d2⟩, fun e => ?_⟩ (fun nv1 ns1 h1 => ?_) ⟨p, q, nv', ns', rfl, hg.li, d1, d2⟩⟩
          · simp [upF, h9] at e
          · simp [upF] at e
          · obtain ⟨rfl, rfl⟩ := (HP.out.li.keep hk0 (fun _ _ f => f)).uniq h1
            exact ⟨nv', ns', hg.li, hg.pre⟩
      case sst =>
        intro F a W hF hdn hJ hq hdp K hK
        have e0 : a.eval (.tmp 35) = .pointer (some ⟨dg, j * 2, none⟩) := hdp ⟨8, .data⟩ (by simp) rfl 35 rfl (of_decide_eq_true rfl)
        obtain ⟨p, q, nv1, ns1, e1, h1, d1, d2⟩ : ∃ p q nv ns, a.eval (.tmp 34) = .agg #[.int .i64 p, .int .i64 q] ∧ LIn W bz (bz + 1) bz nv ns ∧ Den ns p (plainT (.mk o nn ks) false) ∧ Den ns q (plainT (.mk o nn ks) true) := hdp ⟨7, .data⟩ (by simp) rfl 34 rfl (of_decide_eq_true rfl)
        have h7 : F 7 = true := hdn ⟨7, .data⟩ (by simp) rfl
        obtain ⟨nv', ns', _, _, hg, _, _⟩ := hJ.2.1 hF h7
        obtain ⟨rfl, rfl⟩ := hg.li.uniq h1
        have hc : ∀ i, W.cell? ⟨dg, i, none⟩ = wr.cell? ⟨dg, i, none⟩ := fun i => hg.kept.cell (p := ⟨dg, i, none⟩) hdgw nd
        have hfz : ∀ i, W.frozen? ⟨dg, i, none⟩ = wr.frozen? ⟨dg, i, none⟩ := fun i => hg.kept.frozen (p := ⟨dg, i, none⟩) hdgw nd
        obtain ⟨u0, c0⟩ := Option.isSome_iff_exists.1 ((HP.out.row (j * 2) (by omega)).1)
        obtain ⟨u1, c1⟩ := Option.isSome_iff_exists.1 ((HP.out.row (j * 2 + 1) (by omega)).1)
        rw [← hc] at c0 c1
        have f0 := (hfz (j * 2)).trans (HP.out.row (j * 2) (by omega)).2
        have f1 := (hfz (j * 2 + 1)).trans (HP.out.row (j * 2 + 1) (by omega)).2
        have hK1 : Kept (fun k => k = dg) W ((W.setCell ⟨dg, j * 2, none⟩ (.int .i64 p)).setCell ⟨dg, j * 2 + 1, none⟩ (.int .i64 q)) := ((Kept.refl (fun k => k = dg) W).setCell (p := ⟨dg, j * 2, none⟩) (fun _ => rfl) _).setCell (p := ⟨dg, j * 2 + 1, none⟩) (fun _ => rfl) _
        have hne : some dg ≠ nv'.ownBlock := fun e => by
          rcases hg.own dg e with e | e
          · exact nd (.inr (.inr e))
          · omega
        have hli : LIn ((W.setCell ⟨dg, j * 2, none⟩ (.int .i64 p)).setCell ⟨dg, j * 2 + 1, none⟩ (.int .i64 q)) bz (bz + 1) bz nv' ns' := hg.li.keep hK1 (by
          rintro k (e | e | e) hkd
          · have e' : k = bz + 1 := e
            omega
          · have e' : k = bz := e
            omega
          · rw [hkd] at e
            exact hne e)
        have i0 : (W.cell? ⟨dg, j * 2, none⟩).isSome = true := by rw [c0]; rfl
        have i1 : ((W.setCell ⟨dg, j * 2, none⟩ (.int .i64 p)).cell? ⟨dg, j * 2 + 1, none⟩).isSome = true := by
          rw [cell_set_row i0, if_neg (by omega), c1]; rfl
        have hcs : ∀ i, ((W.setCell ⟨dg, j * 2, none⟩ (.int .i64 p)).setCell ⟨dg, j * 2 + 1, none⟩ (.int .i64 q)).cell? ⟨dg, i, none⟩ = if i = j * 2 + 1 then some (.int .i64 q) else if i = j * 2 then some (.int .i64 p) else W.cell? ⟨dg, i, none⟩ := fun i => by
          rw [cell_set_row i1, cell_set_row i0]
        refine wp_skip (W' := ((W.setCell ⟨dg, j * 2, none⟩ (.int .i64 p)).setCell ⟨dg, j * 2 + 1, none⟩ (.int .i64 q))) ?_ (hK _ _ ⟨fun _ => ⟨by simp [upF, h7], W, nv', ns', p, q, { g := hg, d1 := d1, d2 := d2, k := hK1, c0 := ?_, c1 := ?_, oth := ?_, fr := ?_ }⟩, fun e => ?_, fun e => ?_⟩ (fun nv2 ns2 h2 => ?_) rfl)
        · revert e0 e1; generalize a.eval = ρ; intro e0 e1
          simp [execOp, go_sem, e0, e1, c0, c1, f0, f1]
        · rw [hcs, if_neg (by omega), if_pos rfl]
        · rw [hcs, if_pos rfl]
        · intro i a1 a2
          rw [hcs, if_neg a2, if_neg a1]
        · intro i
          simp only [World.frozen?_setCell]
        · simp [upF] at e
        · simp [upF, h7] at e
        · obtain ⟨rfl, rfl⟩ := hg.li.uniq h2
          exact ⟨nv', ns', hli, List.prefix_refl _⟩
      case hend =>
        rintro f W ⟨F, hF, hJ⟩ hR
        obtain ⟨_, Wb, nv', ns', p, q, hfin⟩ := hJ.1 (hF 9 (by decide))
        have HPN : Hid (PI bz (bz + 1) bz (bz + 1 + 1) dg fs.length w2 W4 fs (j + 1) W nv' ns') := HP.out.next hlt HTJ.out ⟨j, ids, rfl, HX.out, HKS.out⟩ hfin (by omega) (by omega) (by omega) (by omega) (by omega) (by omega) (by omega) (by omega)
        clear hR hJ hfin hF HP hbox n7 nd
        simp only [puts, Nat.zero_add, Nat.reduceAdd, Act.put, List.setIfInBounds_toArray, List.set_cons_succ, List.set_cons_zero, List.set_nil]
        generalize f 0 = t0
        generalize f 1 = t1
        generalize f 2 = t2
        generalize f 3 = t3
        generalize f 4 = t4
        generalize f 5 = t5
        generalize f 6 = t6
        generalize f 7 = t7
        generalize f 8 = t8
        clear f
        go_wp2
        go_roundw
        case rel => exact ⟨j + 1, nv', ns', by omega, by go_num, HPN.out⟩
        case measure => simp [intOf]; omega
    · obtain rfl : j = fs.length := by omega
      obtain ⟨p, q, c0, c1, hd⟩ := hpi.done (fs.length - 1) (by omega)
      have e1 : ((fs.length : Int) - 1) = ((fs.length - 1 : Nat) : Int) := by omega
      have hD := hd t HW.out (by rw [← e1]; exact HD.out)
      have hbox := hpi.box
      have HP : Hid (PI bz (bz + 1) bz (bz + 1 + 1) dg fs.length w2 W4 fs fs.length wr nv ns) := hpi
      have HDN : Hid (Den ns p (plainT t false)) := hD.1
      clear hpi hd hD HPI
      go_wp2
      go_quiet (fail)
      go_wp2
      refine bodyPost_ret (v := .tuple #[.pointer (some ⟨bz + 1, 0, none⟩), .int .i64 p, .bool true]) (by simp [results, Tryd.results53, go_sem]) rfl ⟨?_, .inr ⟨HW.out, bz + 1, bz, nv, ns, p, rfl, ?_, HDN.out, HP.out.ord, ?_, HP.out.nd⟩⟩
      · exact (k02.trans HP.out.kept (fun k hk e => by have := HBZ.out; have := k02.size; omega)).drewN _
      · exact (HP.out.li.keep ((Kept.refl (fun _ => False) _).drewN _) (fun _ _ f => f)).base (by have := HBZ.out; have := k02.size; omega)
      · have := HP.out.len
        omega
theorem plain53 (w : World) (B : Nat) (v : Value) (t : Tr) (hv : FormV B w v t) (hB : B ≤ w.heap.size) (hT : TabK w) (hTt : TabT w) (hB2 : 3 ≤ B) (hsz : t.size ≤ 16777216) :
    Calls Tryd.prog 53 #[v] w fun e w' => Post53 w t e w' := by
  by_cases ht : t.well
  · exact plain53w w B v t ht hv hB hT hTt hB2 hsz
  · exact plain53n w B v t ht hv hB hT hB2 hsz
end Go.Proofs.YtdbpdanocpfboaaDoor
