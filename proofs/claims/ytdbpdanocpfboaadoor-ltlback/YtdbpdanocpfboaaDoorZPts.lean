import Derived.Test.YtdbpdanocpfboaaDoorZWi5
import Derived.Test.YtdbpdanocpfboaaDoorZBun11
/- Parts of package ltl. -/
namespace Go.Proofs.YtdbpdanocpfboaaDoor
open Go.RowKit Go.Shelf
attribute [local go_sem] Oper.semAt_some

def vcells : Value → List Value
  | .agg xs => xs.toList
  | _ => []
/-- a row of one's own of Forms, each of them in blocks of its own -/
structure PF (base : Nat) (w : World) (pv : Value) (vs : List Value) (S : Nat → Nat → Prop) (ts : List Tr) : Prop where
  row : w.ownsRow base 24 3 pv ts.length (vs.flatMap vcells)
  len : vs.length = ts.length
  form : ∀ k v t, vs[k]? = some v → ts[k]? = some t → FVS (S k) w v t
  inn : ∀ k b, S k b → base ≤ b ∧ b < w.heap.size
  dis : ∀ k k' b, k ≠ k' → S k b → ¬ S k' b
  out : ∀ k b, S k b → ¬ inRow pv b
theorem PF.nil (base : Nat) (w : World) : PF base w (.slice none 0 0) [] (fun _ _ => False) [] :=
  ⟨World.ownsRow_nil _ _ _ _, rfl, fun k v t h => by simp at h, fun _ _ f => f.elim, fun _ _ _ _ f => f.elim, fun _ _ f => f.elim⟩
theorem PF.keep {base : Nat} {w w' : World} {pv : Value} {vs : List Value} {S : Nat → Nat → Prop} {ts : List Tr} (h : PF base w pv vs S ts) (hk : Kept (fun _ => False) w w') : PF base w' pv vs S ts :=
  ⟨ownsRow_of_block h.row (fun q hq => hk.block q (ownsRow_lt h.row hq).1 (fun f => f)), h.len, fun k v t h1 h2 => (h.form k v t h1 h2).keep (fun _ hb => hb) (fun b hb => hk.block b (h.inn k b hb).2 (fun f => f)), fun k b hb => ⟨(h.inn k b hb).1, Nat.lt_of_lt_of_le (h.inn k b hb).2 hk.size⟩, h.dis, h.out⟩
/-- a Form is laid behind the others -/
theorem PF.snoc {base lo : Nat} {w w' : World} {pv pv' v : Value} {vs : List Value} {S : Nat → Nat → Prop} {ts : List Tr} {t : Tr} (h : PF base w pv vs S ts) (hS : ∀ k b, S k b → b < lo) (hlo : base ≤ lo) (hi : Nat) (hhi : hi ≤ w.heap.size) (hv : FVS (fun b => lo ≤ b ∧ b < hi) w v t) (hpl : ∀ b, inRow pv b → b < lo)
    (hr : w'.ownsRow base 24 3 pv' (ts.length + 1) (vs.flatMap vcells ++ vcells v)) (hg : w.grownBy w' pv.ownBlock) (hloc : pv'.ownBlock = pv.ownBlock ∨ pv'.ownBlock = some w.heap.size) :
    PF base w' pv' (vs ++ [v]) (fun k b => if k < ts.length then S k b else k = ts.length ∧ lo ≤ b ∧ b < hi) (ts ++ [t]) := by
  have hk : Kept (fun b => inRow pv b) w w' := (Kept.refl _ _).grown hg (fun k _ e => e)
  refine ⟨by simpa using hr, by simp [h.len], fun k u s h1 h2 => ?_, fun k b hb => ?_, fun k k' b hne hb hb' => ?_, fun k b hb e => ?_⟩
  · by_cases hkl : k < ts.length
    · rw [List.getElem?_append_left (by rw [h.len]; exact hkl)] at h1
      rw [List.getElem?_append_left hkl] at h2
      exact (h.form k u s h1 h2).keep (fun b hb => by rw [if_pos hkl]; exact hb) (fun b hb => hk.block b (h.inn k b hb).2 (h.out k b hb))
    · have hke : k = ts.length := by
        have := (List.getElem?_eq_some_iff.1 h2).1
        simp at this
        omega
      subst hke
      rw [List.getElem?_append_right (Nat.le_refl _)] at h2
      rw [← h.len, List.getElem?_append_right (Nat.le_refl _)] at h1
      simp at h1 h2
      subst h1 h2
      refine hv.keep (fun b hb => by rw [if_neg (Nat.lt_irrefl _)]; exact ⟨by first | rfl | trivial, hb⟩) (fun b hb => hk.block b (by omega) (fun e => by have := hpl b e; omega))
  · have hs := hk.size
    split at hb
    · have := h.inn k b hb; omega
    · omega
  · split at hb <;> split at hb'
    · exact h.dis k k' b hne hb hb'
    · have := hS k b hb; omega
    · have := hS k' b hb'; omega
    · omega
  · rcases loc_new hloc e with e | e
    · split at hb
      · exact h.out k b hb e
      · have := hpl b e; omega
    · split at hb
      · have := (h.inn k b hb).2; omega
      · omega
theorem PF.base {base base' : Nat} {w : World} {pv : Value} {vs : List Value} {S : Nat → Nat → Prop} {ts : List Tr} (h : PF base w pv vs S ts) (hb : base' ≤ base) : PF base' w pv vs S ts :=
  { h with
    row := ⟨h.row.1, by
      rcases h.row.2 with h2 | ⟨g, cap, cur, e, h3, h4⟩
      · exact .inl h2
      · exact .inr ⟨g, cap, cur, e, Nat.le_trans hb h3, h4⟩⟩
    inn := fun k b hb' => ⟨Nat.le_trans hb (h.inn k b hb').1, (h.inn k b hb').2⟩ }
theorem size_le_sizes : ∀ {l : List Tr} {t : Tr}, t ∈ l → t.size ≤ Tr.sizes l
  | x :: r, t, h => by
    rcases List.mem_cons.1 h with rfl | h
    · simp [Tr.sizes]
    · have := size_le_sizes h
      simp [Tr.sizes]
      omega
theorem sizes_take_le (l : List Tr) (k : Nat) : Tr.sizes (l.take k) ≤ Tr.sizes l := by
  induction l generalizing k with
  | nil => simp
  | cons x r ih =>
    cases k with
    | zero => simp [Tr.sizes]
    | succ k => simp only [List.take_succ_cons, Tr.sizes]; have := ih k; omega
mutual
theorem vis_size : ∀ (t : Tr) (l : List Tr) (u : Tr), u ∈ visT t l → u ∈ l ∨ u.size ≤ t.size
  | .mk op n ks, l, u, h => by
    unfold visT at h
    split at h
    · exact .inl h
    · rcases List.mem_append.1 h with h | h
      · rcases vis_sizes ks l u h with h | h
        · exact .inl h
        · exact .inr (by simp only [Tr.size]; omega)
      · simp at h
        subst h
        exact .inr (Nat.le_refl _)
theorem vis_sizes : ∀ (ks l : List Tr) (u : Tr), u ∈ visTs ks l → u ∈ l ∨ u.size ≤ Tr.sizes ks
  | [], l, u, h => .inl h
  | t :: r, l, u, h => by
    rcases vis_sizes r _ u h with h | h
    · rcases vis_size t l u h with h | h
      · exact .inl h
      · exact .inr (by simp only [Tr.sizes]; omega)
    · exact .inr (by simp only [Tr.sizes]; omega)
end
theorem lat_size {t u : Tr} (h : u ∈ (visT t []).filter latT) : u.size ≤ t.size := by
  rcases vis_size t [] u (List.mem_filter.1 h).1 with h | h
  · simp at h
  · exact h
theorem three_cells' (w : World) (a b c : Value) (t : TypeId) : ∀ j u, (vcells (.agg #[a, b, c]))[j]? = some u → (w.alloc (.cells #[a, b, c] t)).cell? ((⟨w.heap.size, 0, none⟩ : Addr).add j) = some u := three_cells w a b c t

set_option maxRecDepth 100000 in
set_option maxHeartbeats 4000000 in
theorem parts21 (w : World) (B : Nat) (v : Value) (t : Tr) (ht : t.well) (hv : FormV B w v t) (hB : B ≤ w.heap.size) (hT : TabK w) (hTt : TabT w) (hB2 : 3 ≤ B) (hsz : t.size ≤ 16777216) (hsum : Tr.sizes ((visT (plainT t false) []).filter latT) ≤ 2147483647) :
    Calls Tryd.prog 21 #[v] w fun e w' => ∃ pv vs S, e = .returned pv ∧ Kept (fun _ => False) w w' ∧ PF w.heap.size w' pv vs S ((visT (plainT t false) []).filter latT) := by
  obtain ⟨op, n, ka, kl, kc, rfl⟩ := hv.agg
  obtain ⟨w1, hw1⟩ : ∃ w1, w1 = w.alloc (.cells #[.int .i64 op, .int .i64 n, .slice ka kl kc] 24) := ⟨_, rfl⟩
  have k1 : Kept (fun _ => False) w w1 := by rw [hw1]; exact (Kept.refl _ _).alloc _
  have c0 : w1.cell? ⟨w.heap.size, 0, none⟩ = some (.int .i64 op) := by rw [hw1]; simp
  have c1 : w1.cell? ⟨w.heap.size, 1, none⟩ = some (.int .i64 n) := by rw [hw1]; simp
  have c2 : w1.cell? ⟨w.heap.size, 2, none⟩ = some (.slice ka kl kc) := by rw [hw1]; simp
  have HV1 : Hid (FormV B w1 (.agg #[.int .i64 op, .int .i64 n, .slice ka kl kc]) t) := hv.below (k1.below hB (fun _ f => f.elim))
  have HT1 : Hid (TabK w1) := hT.kept k1 (fun f => f)
  have HTT1 : Hid (TabT w1) := hTt.kept k1 (fun f => f)
  have hB1 : B ≤ w1.heap.size := Nat.le_trans hB k1.size
  have HW : Hid t.well := ht
  have HPW : Hid ((plainT t false).well) := plainT_well t false ht
  have hps := plainT_size t false
  clear hv hT hTt ht
  go_enter Tryd.func21, Tryd.ntmps21
  go_upto_region 1 with fail
  rw [← hw1]
  clear hw1
  go_upto_region 2 with (go_at_call 53; refine (plain53g _ B _ t HW.out HV1.out hB1 HT1.out HTT1.out hB2 hsz).mono ?_; rintro e w2 ⟨L, bm, nv, ns, i, rfl, k2, hL, hd, ho, hl, hnd⟩)
  have HR : Hid (LRead w2 L ns) := hL.read
  have HO : Hid (Ord ns) := ho
  have HD : Hid (Den ns i (plainT t false)) := hd
  have HN : Hid ns.Nodup := hnd
  have hnl : ns.length ≤ 536870912 := by omega
  clear hL hd ho hnd c0 c1 c2 HV1 HT1 HTT1 hB1
  generalize hts : (visT (plainT t false) []).filter latT = ts at *
  have HTS : Hid (∀ u ∈ ts, u.size ≤ 33554432) := fun u hu => by rw [← hts] at hu; have := lat_size hu; omega
  go_upto_region 5 with (go_at_call 55; go_must (refine (later55 _ ns (plainT t false) i L HR.out HO.out HN.out HD.out HPW.out (by omega)).mono ?_); rintro e w3 ⟨qv, ps, rfl, k3, h31, h32, h33⟩; obtain ⟨oa, oc, rfl⟩ : ∃ oa oc, qv = .slice oa ps.length oc := (by rcases h31.2 with ⟨h, h'⟩ | ⟨g, cap, cur, h, _⟩; exact ⟨none, 0, by rw [h, h']⟩; exact ⟨_, _, h⟩))
  rw [hts] at h32
  have HR3 : Hid (LRead w3 L ns) := HR.out.kept k3
  have hk13 : w2.heap.size ≤ w3.heap.size := k3.size
  go_upto_region 6 with (go_at_call 51; go_must (refine (sizes51 _ L ns HR3.out HO.out hnl).mono ?_); rintro e w4 ⟨sb, rfl, hs⟩)
  have k4 : Kept (fun _ => False) w3 w4 := hs.kept
  have HS : Hid (SzI sb ns.length ns w3 ns.length w4) := hs
  have HP : Hid (RelL ns ps ts) := h32
  have hpl := h32.len
  have HC : Hid (∀ wr, Kept (fun _ => False) w4 wr → ∀ (k : Nat) (x : Int), ps[k]? = some x → ∃ g, oa = some ⟨g, 0, none⟩ ∧ wr.cell? ⟨g, k, none⟩ = some (.int .i64 x)) := by
    intro wr hk k x hx
    rcases h31.2 with ⟨h, h'⟩ | ⟨g, cap, cur, h, _⟩
    · have := (List.getElem?_eq_some_iff.1 hx).1; omega
    · injection h with h
      subst h
      refine ⟨g, rfl, ?_⟩
      have h5 := h31.cells (g := g) rfl k (.int .i64 x) (by rw [List.getElem?_map, hx]; rfl)
      rw [addr_add] at h5
      have k34 := k4.trans hk (fun _ _ f => f)
      exact (k34.cell (p := ⟨g, k, none⟩) (lt_of_cell h5) (fun f => f)).trans h5
  have HR4 : Hid (LRead w4 L ns) := HR3.out.kept k4
  have hk04 : Kept (fun _ => False) w w4 := ((k1.trans k2 (fun _ _ f => f)).trans k3 (fun _ _ f => f)).trans k4 (fun _ _ f => f)
  have HK04 : Hid _ := hk04
  clear h31 h32 hs k1 k2 k3 k4 HR HR3 hk13 hk04
  go_wp2_with fail
  go_loopw [8, 10, 29] (fun tot _ i wr => ∃ k : Nat, k ≤ ps.length ∧ i = .int .i64 k ∧ tot = .int .i64 (Tr.sizes (ts.take k) : Int) ∧ Kept (fun _ => False) w4 wr) (fun _ _ i _ => ps.length - (intOf i).toNat)
  case atStart => exact ⟨0, Nat.zero_le _, rfl, by simp [Tr.sizes], Kept.refl _ _⟩
  case round =>
    obtain ⟨k, hk, rfl, rfl, hkr⟩ := hrel
    by_cases hlt : k < ps.length
    · obtain ⟨u, hu, hdu, hwu⟩ := HP.out.get (List.getElem?_eq_getElem hlt)
      obtain ⟨g, rfl, hcg⟩ := HC.out wr hkr k _ (List.getElem?_eq_getElem hlt)
      obtain ⟨j, hj⟩ : ∃ j : Nat, ps[k] = (j : Int) := ⟨ps[k].toNat, by have := hdu.lt; omega⟩
      rw [hj] at hdu hcg
      have hjn : j < ns.length := by have := hdu.lt; omega
      have hus := HTS.out u (List.mem_of_getElem? hu)
      have hsc0 := HS.out.done j u hjn hwu hdu
      have hcap : capS u.size = (u.size : Int) := by unfold capS; rw [if_pos (by omega)]
      rw [hcap] at hsc0
      have hsc := (hkr.cell (p := ⟨sb, j, none⟩) (lt_of_cell hsc0) (fun f => f)).trans hsc0
      have hst := sizes_take_succ ts k u hu
      have hsl := sizes_take_le ts (k + 1)
      have hlti : (k : Int) < (ps.length : Int) := by omega
      have hjni : (j : Int) < (ns.length : Int) := by omega
      have HST : Hid _ := hst
      generalize hA : Tr.sizes (ts.take k) = A at *
      have hwr : wrap64 ((A : Int) + (u.size : Int)) = (A : Int) + (u.size : Int) := wrap_in _ (by omega)
      clear hsc0 hcap hdu hwu hst
      go_wp2
      go_roundw
      case rel => exact ⟨k + 1, by omega, by simp, by rw [HST.out]; simp [hwr], by first | exact hkr | exact hkr.drew⟩
      case measure => simp [intOf]; omega
    · obtain rfl : k = ps.length := by omega
      have htk : ts.take ps.length = ts := by rw [hpl, List.take_length]
      rw [htk]
      have hmost : ¬ (2147483647 : Int) < (Tr.sizes ts : Int) := by omega
      have HKR : Hid (Kept (fun _ => False) w4 wr) := hkr
      clear hkr htk
      go_wp2_with fail
      have hpf0 : PF w4.heap.size wr (.slice none 0 0) [] (fun _ _ => False) (ts.take 0) := PF.nil _ _
      have HPF0 : Hid _ := hpf0
      clear hpf0
      obtain ⟨i0, hi, hz0, hz1, hz2⟩ := info_parts info24
      generalize hwr0 : wr = wm at *
      clear hwr0
      go_loopw [11, 13, 44] (fun p _ i wr => ∃ (k : Nat) (vs : List Value) (S : Nat → Nat → Prop), k ≤ ps.length ∧ i = .int .i64 k ∧ Kept (fun _ => False) w4 wr ∧ PF w4.heap.size wr p vs S (ts.take k)) (fun _ _ i _ => ps.length - (intOf i).toNat)
      case atStart => exact ⟨0, [], _, Nat.zero_le _, rfl, HKR.out, HPF0.out⟩
      case round =>
        obtain ⟨k, vs, S, hk, rfl, hkr, hpf⟩ := hrel
        by_cases hlt : k < ps.length
        · obtain ⟨u, hu, hdu, hwu⟩ := HP.out.get (List.getElem?_eq_getElem hlt)
          obtain ⟨g, rfl, hcg⟩ := HC.out wr hkr k _ (List.getElem?_eq_getElem hlt)
          have hus := HTS.out u (List.mem_of_getElem? hu)
          have hlti : (k : Int) < (ps.length : Int) := by omega
          have HDU : Hid (Den ns ps[k] u ∧ u.well) := ⟨hdu, hwu⟩
          have HRr : Hid (LRead wr L ns) := HR4.out.kept hkr
          have HPF : Hid (PF w4.heap.size wr u11 vs S (ts.take k)) := hpf
          have HKr : Hid (Kept (fun _ => False) w4 wr) := hkr
          have hts2 : (ts.take k).length = k := by rw [List.length_take]; omega
          have hws : w4.heap.size ≤ wr.heap.size := hkr.size
          have hnk : ts.take (k + 1) = ts.take k ++ [u] := by rw [List.take_add_one, hu]; rfl
          have HNK : Hid _ := hnk
          have HT2 : Hid _ := hts2
          have h33' : ps.length ≤ 67108864 := by omega
          generalize hx : ps[k] = x at *
          clear hdu hwu hkr hpf hu hnk hts2
          go_wp2_with
            (first
              | (go_at_call 54; go_must (refine (form54 _ L ns x u HRr.out HO.out HDU.out.1 HDU.out.2 (by omega)).mono ?_); rintro e w5 ⟨v5, rfl, k5, hF⟩; obtain ⟨oC, nC, aC, lC, cC, rfl⟩ := hF.agg; have HF : Hid (FVS (fun b => wr.heap.size ≤ b ∧ b < w5.heap.size) w5 (.agg #[.int .i64 oC, .int .i64 nC, .slice aC lC cC]) u) := hF; have hpf5 := HPF.out.keep k5; have hrow := hpf5.row; rw [HT2.out] at hrow; have K5 : Hid _ := k5; have hs5 := k5.size; have HP5 : Hid _ := hpf5; clear hF hpf5 k5)
              | (at_builtin; go_must (refine wpList_append_own_at _ rfl _ _ 22 rfl w4.heap.size 24 i0 _ 3 40 Tryd.underlying22 hi hz0 hz1 hz2 rfl (by decide) _ k _ rfl (hrow.alloc _) ⟨w5.heap.size, 0, none⟩ 1 1 [.int .i64 oC, .int .i64 nC, .slice aC lC cC] rfl rfl (three_cells _ _ _ _ _) (by intro y hy; simp at hy; rcases hy with rfl | rfl | rfl <;> rfl) (by unfold maxLen; omega) (by omega) (by simp; omega) ?_); intro pv6 w6 hown6 hgrow6 hnil6 hloc6))
          go_roundw
          case rel =>
            have hp6 : PF w4.heap.size (w5.alloc (.cells #[.int .i64 oC, .int .i64 nC, .slice aC lC cC] 24)) u11 vs S (ts.take k) := HP5.out.keep ((Kept.refl _ _).alloc _)
            have hnew := hp6.snoc (pv' := pv6) (w' := w6) (lo := wr.heap.size) (t := u) (v := .agg #[.int .i64 oC, .int .i64 nC, .slice aC lC cC]) (fun k' b hb => (HPF.out.inn k' b hb).2) hws w5.heap.size (by simp) (HF.out.keep (fun _ hb => hb) (fun b hb => Below.heap_alloc _ _ _ hb.2)) (fun b hb => (ownsRow_lt HPF.out.row hb).1) (by rw [HT2.out]; exact hown6) hgrow6 hloc6
            have hk6 : Kept (fun b => inRow u11 b) w5 w6 := ((Kept.refl _ _).alloc _).grown hgrow6 (fun k _ e => e)
            refine ⟨k + 1, _, _, by omega, by simp, (HKr.out.trans K5.out (fun _ _ f => f)).trans hk6 (fun b hb e => ?_), by rw [HNK.out]; exact hnew⟩
            have := (ownsRow_lt HPF.out.row e).2
            omega
          case measure => simp [intOf]; omega
        · obtain rfl : k = ps.length := by omega
          obtain ⟨pa, pn, pc, rfl⟩ : ∃ pa pn pc, u11 = .slice pa pn pc := by
            rcases hpf.row.2 with ⟨h, _⟩ | ⟨g, cap, cur, h, _⟩
            · exact ⟨_, _, _, h⟩
            · exact ⟨_, _, _, h⟩
          go_wp2
          go_ret
          rw [hpl, List.take_length] at hpf
          rw [hts]
          exact ⟨_, vs, S, rfl, HK04.out.trans hkr (fun _ _ f => f), hpf.base HK04.out.size⟩

set_option maxRecDepth 100000 in
set_option maxHeartbeats 1000000 in
theorem parts21b (w : World) (B : Nat) (v : Value) (t : Tr) (ht : ¬ t.well) (hv : FormV B w v t) (hB : B ≤ w.heap.size) (hT : TabK w) (hTt : TabT w) (hB2 : 3 ≤ B) (hsz : t.size ≤ 16777216) :
    Calls Tryd.prog 21 #[v] w fun e w' => e = .returned (.slice none 0 0) ∧ Kept (fun _ => False) w w' := by
  obtain ⟨op, n, ka, kl, kc, rfl⟩ := hv.agg
  obtain ⟨w1, hw1⟩ : ∃ w1, w1 = w.alloc (.cells #[.int .i64 op, .int .i64 n, .slice ka kl kc] 24) := ⟨_, rfl⟩
  have k1 : Kept (fun _ => False) w w1 := by rw [hw1]; exact (Kept.refl _ _).alloc _
  have c0 : w1.cell? ⟨w.heap.size, 0, none⟩ = some (.int .i64 op) := by rw [hw1]; simp
  have c1 : w1.cell? ⟨w.heap.size, 1, none⟩ = some (.int .i64 n) := by rw [hw1]; simp
  have c2 : w1.cell? ⟨w.heap.size, 2, none⟩ = some (.slice ka kl kc) := by rw [hw1]; simp
  have HV1 : Hid (FormV B w1 (.agg #[.int .i64 op, .int .i64 n, .slice ka kl kc]) t) := hv.below (k1.below hB (fun _ f => f.elim))
  have HT1 : Hid (TabK w1) := hT.kept k1 (fun f => f)
  have HTT1 : Hid (TabT w1) := hTt.kept k1 (fun f => f)
  have hB1 : B ≤ w1.heap.size := Nat.le_trans hB k1.size
  have HW : Hid (¬ t.well) := ht
  clear hv hT hTt ht
  go_enter Tryd.func21, Tryd.ntmps21
  go_upto_region 1 with fail
  rw [← hw1]
  clear hw1
  go_wp2_with (go_at_call 53; refine (plain53b _ B _ t HW.out HV1.out hB1 HT1.out HTT1.out hB2 hsz).mono ?_; rintro e w2 ⟨rfl, k2⟩)
  go_ret
  exact ⟨rfl, k1.trans k2 (fun _ _ f => f)⟩
end Go.Proofs.YtdbpdanocpfboaaDoor
