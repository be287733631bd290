import Derived.Test.YtdbpdanocpfboaaDoorZBun10
import Derived.Test.YtdbpdanocpfboaaDoorZPl6
/- Walks of package nodes: Sizes. -/
namespace Go.Proofs.YtdbpdanocpfboaaDoor
open Go.RowKit

theorem info2 : (Tryd.prog.info? 2).map (fun i => (i.zero, i.size, i.bytes)) = some (some (.int .i64 0), 1, 8) := by kernel_rfl
def capS (n : Nat) : Int := if n < 2147483648 then (n : Int) else 2147483648
theorem capS_add (a b : Nat) : (if 2147483648 < capS a + capS b then 2147483648 else capS a + capS b) = capS (a + b) := by
  unfold capS; split <;> split <;> split <;> (try split) <;> omega
/-- the sizes of the first j Nodes lie there -/
structure SzI (sb m : Nat) (ns : List Nd) (w0 : World) (j : Nat) (wr : World) : Prop where
  kept : Kept (fun _ => False) w0 wr
  new : w0.heap.size ≤ sb
  row : ∀ k, k < m → (wr.cell? ⟨sb, k, none⟩).isSome = true ∧ wr.frozen? ⟨sb, k, none⟩ = false
  done : ∀ k t, k < j → t.well → Den ns (k : Int) t → wr.cell? ⟨sb, k, none⟩ = some (.int .i64 (capS t.size))
theorem SzI.keep {sb m : Nat} {ns : List Nd} {w0 wr wr' : World} {j : Nat} (h : SzI sb m ns w0 j wr) (hl : sb < wr.heap.size) (hk : Kept (fun _ => False) wr wr') : SzI sb m ns w0 j wr' :=
  { kept := h.kept.trans hk (fun _ _ f => f), new := h.new
    row := fun k hm => by rw [hk.cell (p := ⟨sb, k, none⟩) hl (fun f => f), hk.frozen (p := ⟨sb, k, none⟩) hl (fun f => f)]; exact h.row k hm
    done := fun k t hj ht hd => (hk.cell (p := ⟨sb, k, none⟩) hl (fun f => f)).trans (h.done k t hj ht hd) }
theorem SzI.put {sb m : Nat} {ns : List Nd} {w0 wr : World} {j : Nat} (h : SzI sb m ns w0 j wr) {k : Nat} (hk : k < m) (hj : j ≤ k) (v : Value) : SzI sb m ns w0 j (wr.setCell ⟨sb, k, none⟩ v) ∧ (wr.setCell ⟨sb, k, none⟩ v).cell? ⟨sb, k, none⟩ = some v := by
  have hs := (h.row k hk).1
  refine ⟨{ kept := h.kept.setCell (fun hh => absurd hh (by have := h.new; simp only; omega)) _, new := h.new, row := fun i hi => ?_, done := fun i t hi ht hd => ?_ }, by rw [cell_set_row hs, if_pos rfl]⟩
  · rw [cell_set_row hs, World.frozen?_setCell]
    refine ⟨?_, (h.row i hi).2⟩
    split
    · rfl
    · exact (h.row i hi).1
  · rw [cell_set_row hs, if_neg (by omega)]
    exact h.done i t hi ht hd
theorem Dens.get {ns : List Nd} : ∀ {ids : List Int} {ks : List Tr} {m : Nat} {i : Int}, Dens ns ids ks → ids[m]? = some i → ∃ t, ks[m]? = some t ∧ Den ns i t
  | ids, [], m, i, h, e => by rw [show ids = [] from h] at e; simp at e
  | ids, t :: r, m, i, h, e => by
    obtain ⟨j, rest, rfl, h1, h2⟩ := h
    cases m with
    | zero => simp at e; subst e; exact ⟨t, rfl, h1⟩
    | succ m =>
      obtain ⟨t', h3, h4⟩ := Dens.get h2 (by simpa using e)
      exact ⟨t', by simpa using h3, h4⟩
theorem sizes_take_succ : ∀ (l : List Tr) (m : Nat) (t : Tr), l[m]? = some t → Tr.sizes (l.take (m + 1)) = Tr.sizes (l.take m) + t.size
  | x :: r, 0, t, h => by simp at h; subst h; simp [Tr.sizes]
  | x :: r, m + 1, t, h => by
    have := sizes_take_succ r m t (by simpa using h)
    simp only [List.take_succ_cons, Tr.sizes, this]
    omega
/-- a Node, its Kids and its formula -/
theorem den_node {ns : List Nd} (ho : Ord ns) {j : Nat} {o nn : Int} {ks : List Tr} (hd : Den ns (j : Int) (.mk o nn ks)) (ht : (Tr.mk o nn ks).well) : ∃ ids, ns[j]? = some (mkNd o nn ids) ∧ Dens ns ids ks ∧ kidsL (mkNd o nn ids) = ids ∧ ∀ i ∈ ids, 0 ≤ i ∧ i < (j : Int) := by
  obtain ⟨j', ids, ej, hx, hks⟩ := hd
  obtain rfl : j = j' := by omega
  have h1 := hks.length
  have h2 := ht.1.2.2.1
  have h3 := kidC_le2 ht.1.1 ht.1.2.1
  refine ⟨ids, hx, hks, kidsL_mk (by omega) (fun i h => (hks.lt i h).1), ?_⟩
  obtain ⟨o', n', ids', ex, hw', hi'⟩ := ho j _ hx
  have h4 := hw'.2.2.1
  have h5 := kidC_le2 hw'.1 hw'.2.1
  obtain ⟨_, e, _⟩ := mkNd_inj ex (by omega) (by omega) (fun x hx => (hks.lt x hx).1) (fun x hx => (hi' x hx).1)
  subst e
  exact hi'
theorem ord_node {ns : List Nd} (ho : Ord ns) {j : Nat} (hj : j < ns.length) : ∃ o nn ids ks, ns[j]? = some (mkNd o nn ids) ∧ (Tr.mk o nn ks).well ∧ Dens ns ids ks ∧ kidsL (mkNd o nn ids) = ids ∧ ∀ i ∈ ids, 0 ≤ i ∧ i < (j : Int) := by
  obtain ⟨⟨o, nn, ks⟩, ht, hd⟩ := ord_den ho (j + 1) j (by omega) hj
  obtain ⟨ids, h1, h2, h3, h4⟩ := den_node ho hd ht
  exact ⟨o, nn, ids, ks, h1, ht, h2, h3, h4⟩
set_option maxRecDepth 100000 in
set_option maxHeartbeats 4000000 in
theorem sizes51 (w : World) (L : Nat) (ns : List Nd) (hR : LRead w L ns) (ho : Ord ns) (hlen : ns.length ≤ 536870912) :
    Calls Tryd.prog 51 #[.pointer (some ⟨L, 0, none⟩)] w fun e w' => ∃ sb, e = .returned (.slice (some ⟨sb, 0, none⟩) ns.length ns.length) ∧ SzI sb ns.length ns w ns.length w' := by
  obtain ⟨a, c, h1, h2, h3⟩ := id hR
  have HR : Hid (LRead w L ns) := hR
  have HO : Hid (Ord ns) := ho
  obtain ⟨i0, hi, hz0, hz1, hz2⟩ := info_parts info2
  have hmk : ∀ u : World, (Instr.makeSlice 84 (.int .i64 (ns.length : Int)) (.int .i64 (ns.length : Int))).run Tryd.prog u = .ok (.slice (some ⟨u.heap.size, 0, none⟩) ns.length ns.length) (u.alloc (.cells (madeCells #[.int .i64 0] ns.length) 2)) := fun u => by
    have hh := run_make (P := Tryd.prog) u 84 2 i0 (.int .i64 0) Tryd.underlying84 hi hz0 .i64 .i64 (ns.length : Int) (ns.length : Int) (by omega) (Int.le_refl _) (by rw [hz2]; omega) (by omega)
    simpa [hz1, Value.cells] using hh
  clear hi hz0 hz1 hz2 h2 h3 ho hR
  go_enter Tryd.func51, Tryd.ntmps51
  go_upto_region 2 with fail
  obtain ⟨W1, hW1⟩ : ∃ W1, W1 = w.alloc (.cells (madeCells #[.int .i64 0] ns.length) 2) := ⟨_, rfl⟩
  have k1 : Kept (fun _ => False) w W1 := by rw [hW1]; exact (Kept.refl _ _).alloc _
  have hs1 : w.heap.size < W1.heap.size := by rw [hW1]; simp
  have HI : Hid (SzI w.heap.size ns.length ns w 0 W1) :=
    { kept := k1, new := Nat.le_refl _, row := fun i hi => by rw [hW1]; exact ⟨by rw [cell_made _ _ _ hi]; rfl, by simp⟩, done := fun k t hk => absurd hk (by omega) }
  have h11 := (k1.cell (p := ⟨L, 0, none⟩) (lt_of_cell h1) (fun f => f)).trans h1
  rw [← hW1]
  clear hW1 hmk
  go_wp2_with fail
  have hs0 : w.heap.size = w.heap.size := rfl
  generalize hsb : w.heap.size = sb at *
  have HSB : Hid (w.heap.size = sb) := hsb
  clear hs0 hsb
  go_loopw [4, 5, 7, 19] (fun _ _ _ i wr => ∃ j : Nat, j ≤ ns.length ∧ i = .int .i64 j ∧ sb < wr.heap.size ∧ SzI sb ns.length ns w j wr) (fun _ _ _ i _ => ns.length - (intOf i).toNat)
  case atStart => exact ⟨0, Nat.zero_le _, rfl, hs1, HI.out⟩
  case round =>
    obtain ⟨j, hj, rfl, hsl, hsi⟩ := hrel
    by_cases hlt : j < ns.length
    · have HS : Hid (SzI sb ns.length ns w j wr) := hsi
      obtain ⟨o, nn, ids, ks, hx, htj, hks, hkl, hik⟩ := ord_node HO.out hlt
      have HDJ : Hid (Den ns (j : Int) (.mk o nn ks)) := ⟨j, ids, rfl, hx, hks⟩
      have HKS : Hid (Dens ns ids ks) := hks
      have HTJ : Hid ((Tr.mk o nn ks).well) := htj
      have HIL : Hid (ids.length = ks.length) := hks.length
      have hi2 : ids.length ≤ 2 := by
        have h1 := hks.length
        have h2 := htj.1.2.2.1
        have h3 := kidC_le2 htj.1.1 htj.1.2.1
        omega
      have hlti : (j : Int) < (ns.length : Int) := by omega
      obtain ⟨a', c', g1, _, g3⟩ := HR.out.kept hsi.kept
      obtain ⟨g, ea, q0, q1, q2, q3⟩ := g3 j _ hx
      have e1 : a = some ⟨g, 0, none⟩ := by
        have e2 := (hsi.kept.cell (p := ⟨L, 0, none⟩) (lt_of_cell h1) (fun f => f)).trans h1
        rw [g1] at e2
        simp at e2
        rw [← e2.1, ea]
      subst e1
      have HIK : Hid (∀ i ∈ ids, 0 ≤ i ∧ i < (j : Int)) := hik
      have HKL : Hid (kidsL (mkNd o nn ids) = ids) := hkl
      clear hsi g1 g3 ea hks htj hx HI hik hkl
      generalize mkNd o nn ids = x at *
      obtain ⟨xo, xn, xl, xr⟩ := x
      simp only at q0 q1 q2 q3
      go_upto_region 5 with fail
      obtain ⟨W2, hW2⟩ : ∃ W2, W2 = wr.alloc (.cells #[.int .i64 xo, .int .i64 xn, .int .i64 xl, .int .i64 xr] 102) := ⟨_, rfl⟩
      have k2 : Kept (fun _ => False) wr W2 := by rw [hW2]; exact (Kept.refl _ _).alloc _
      have x0 : W2.cell? ⟨wr.heap.size, 0, none⟩ = some (.int .i64 xo) := by rw [hW2]; simp
      have x1 : W2.cell? ⟨wr.heap.size, 1, none⟩ = some (.int .i64 xn) := by rw [hW2]; simp
      have x2 : W2.cell? ⟨wr.heap.size, 2, none⟩ = some (.int .i64 xl) := by rw [hW2]; simp
      have x3 : W2.cell? ⟨wr.heap.size, 3, none⟩ = some (.int .i64 xr) := by rw [hW2]; simp
      rw [← hW2]
      clear hW2 q0 q1 q2 q3
      have HS2 := HS.out.keep hsl k2
      obtain ⟨u0, hu0⟩ := Option.isSome_iff_exists.1 (HS2.row j hlt).1
      have hf0 := (HS2.row j hlt).2
      have HS2' : Hid (SzI sb ns.length ns w j W2) := HS2
      clear HS2
      go_upto_region 6 with fail
      obtain ⟨W3, hW3⟩ : ∃ W3, W3 = W2.setCell ⟨sb, j, none⟩ (.int .i64 1) := ⟨_, rfl⟩
      have hput := HS2'.out.put hlt (Nat.le_refl j) (.int .i64 1)
      rw [← hW3] at hput ⊢
      have hne : wr.heap.size ≠ sb := by omega
      have y0 : W3.cell? ⟨wr.heap.size, 0, none⟩ = some (.int .i64 xo) := by rw [hW3, World.cell?_setCell_other _ _ _ _ (by intro e; cases e; exact hne rfl)]; exact x0
      have y1 : W3.cell? ⟨wr.heap.size, 1, none⟩ = some (.int .i64 xn) := by rw [hW3, World.cell?_setCell_other _ _ _ _ (by intro e; cases e; exact hne rfl)]; exact x1
      have y2 : W3.cell? ⟨wr.heap.size, 2, none⟩ = some (.int .i64 xl) := by rw [hW3, World.cell?_setCell_other _ _ _ _ (by intro e; cases e; exact hne rfl)]; exact x2
      have y3 : W3.cell? ⟨wr.heap.size, 3, none⟩ = some (.int .i64 xr) := by rw [hW3, World.cell?_setCell_other _ _ _ _ (by intro e; cases e; exact hne rfl)]; exact x3
      have hs3 : sb < W3.heap.size := by rw [hW3]; simp [World.setCell]; have := k2.size; omega
      clear hW3 x0 x1 x2 x3 hu0 hf0 HS2'
      have HS3 : Hid (SzI sb ns.length ns w j W3 ∧ W3.cell? ⟨sb, j, none⟩ = some (.int .i64 1)) := hput
      clear hput
      go_wp2_with (go_at_call 63; refine (kids63 _ ⟨xo, xn, xl, xr⟩).mono ?_; rintro e w12 ⟨ka, kc, rfl, hkv, hk12⟩)
      rw [HKL.out] at hkv ⊢
      have HS12 : Hid (SzI sb ns.length ns w j w12) := HS3.out.1.keep hs3 hk12
      have h12 : sb < w12.heap.size := Nat.lt_of_lt_of_le hs3 hk12.size
      have hc12 : w12.cell? ⟨sb, j, none⟩ = some (.int .i64 (capS (1 + Tr.sizes (ks.take 0)))) := (hk12.cell (p := ⟨sb, j, none⟩) hs3 (fun f => f)).trans HS3.out.2
      have HC12 : Hid _ := hc12
      have HKV : Hid (NewInts W3 w12 ka ids) := hkv
      clear y0 y1 y2 y3 hkv hk12 HS3 hc12
      go_loopw [7, 30] (fun _ i wq => ∃ m : Nat, m ≤ ids.length ∧ i = .int .i64 m ∧ NewInts W3 wq ka ids ∧ SzI sb ns.length ns w j wq ∧ sb < wq.heap.size ∧ wq.cell? ⟨sb, j, none⟩ = some (.int .i64 (capS (1 + Tr.sizes (ks.take m))))) (fun _ i _ => ids.length - (intOf i).toNat)
      case atStart => exact ⟨0, Nat.zero_le _, rfl, HKV.out, HS12.out, h12, HC12.out⟩
      case round =>
        obtain ⟨m, hm, rfl, hki, hsm, hlm, hcm⟩ := hrel
        by_cases hmt : m < ids.length
        · have HM1 : Hid (m + 1 ≤ ids.length) := hmt
          have hxm : ids[m]? = some ids[m] := List.getElem?_eq_getElem hmt
          have hkr := HIK.out ids[m] (List.getElem_mem hmt)
          obtain ⟨kb, rfl, hkb, hkc⟩ := hki m _ hxm
          obtain ⟨k, hk⟩ : ∃ k : Nat, ids[m] = (k : Int) := ⟨ids[m].toNat, by omega⟩
          obtain ⟨tk, htk, hdk⟩ : ∃ tk, ks[m]? = some tk ∧ Den ns ids[m] tk := HKS.out.get hxm
          rw [hk] at hkc hkr hdk
          have hkn : k < ns.length := by omega
          have hks2 := hsm.done k tk (by omega) (Tr.wells_iff.1 HTJ.out.2 tk (List.mem_of_getElem? htk)) hdk
          have HSM : Hid (SzI sb ns.length ns w j wr) := hsm
          have HKI : Hid (NewInts W3 wr (some ⟨kb, 0, none⟩) ids) := hki
          have hfj := (hsm.row j hlt).2
          have hnx : Tr.sizes (ks.take (m + 1)) = Tr.sizes (ks.take m) + tk.size := sizes_take_succ ks m tk htk
          have HNX : Hid _ := hnx
          have hmti : (m : Int) < (ids.length : Int) := by omega
          have hkni : (k : Int) < (ns.length : Int) := by omega
          have HPUT : Hid _ := (hsm.put hlt (Nat.le_refl j) (.int .i64 (capS (1 + Tr.sizes (ks.take (m + 1))))))
          obtain ⟨A, hA⟩ : ∃ A, A = capS (1 + Tr.sizes (ks.take m)) := ⟨_, rfl⟩
          obtain ⟨Z, hZ⟩ : ∃ Z, Z = capS tk.size := ⟨_, rfl⟩
          have bA : 0 ≤ A ∧ A ≤ 2147483648 := by rw [hA]; unfold capS; split <;> omega
          have bZ : 0 ≤ Z ∧ Z ≤ 2147483648 := by rw [hZ]; unfold capS; split <;> omega
          have hwr : wrap64 (A + Z) = A + Z := wrap_in _ (by omega)
          have hsum : (if 2147483648 < A + Z then 2147483648 else A + Z) = capS (1 + Tr.sizes (ks.take (m + 1))) := by
            rw [HNX.out, hA, hZ, capS_add]
            congr 1
            omega
          have HSUM : Hid _ := hsum
          rw [← hA] at hcm
          rw [← hZ] at hks2
          clear hA hZ hsum hsm hki HC12 HS12 HKV hnx
          go_upto_region 9 with fail
          go_region
          rw [HSUM.out]
          have hp := HPUT.out
          obtain ⟨W5, hW5⟩ : ∃ W5, W5 = (wr.setCell ⟨sb, j, none⟩ (.int .i64 (capS (1 + Tr.sizes (ks.take (m + 1)))))).drew := ⟨_, rfl⟩
          have h5 : SzI sb ns.length ns w j W5 ∧ W5.cell? ⟨sb, j, none⟩ = some (.int .i64 (capS (1 + Tr.sizes (ks.take (m + 1))))) := by
            rw [hW5]
            have hl5 : sb < (wr.setCell ⟨sb, j, none⟩ (.int .i64 (capS (1 + Tr.sizes (ks.take (m + 1)))))).heap.size := by simpa [World.setCell] using hlm
            exact ⟨hp.1.keep hl5 (Kept.refl _ _).drew, hp.2⟩
          have hl5 : sb < W5.heap.size := by rw [hW5]; simpa [World.setCell] using hlm
          have hn5 : NewInts W3 W5 (some ⟨kb, 0, none⟩) ids := by
            rw [hW5]
            exact (HKI.out.set (p := ⟨sb, j, none⟩) hs3 _)
          rw [← hW5]
          have H5 : Hid _ := h5
          have HN5 : Hid (NewInts W3 W5 (some ⟨kb, 0, none⟩) ids) := hn5
          clear hW5 h5 hn5 hp HPUT
          go_wp2
          go_roundw
          case rel => exact ⟨m + 1, HM1.out, by go_num, HN5.out, H5.out.1, hl5, H5.out.2⟩
          case measure => have := HM1.out; simp [intOf]; omega
        · obtain rfl : m = ids.length := by omega
          have HSM : Hid (SzI sb ns.length ns w j wr) := hsm
          have hall : ks.take ids.length = ks := List.take_of_length_le (by have := HIL.out; omega)
          rw [hall] at hcm
          have HCM : Hid _ := hcm
          have hdone : ∀ k t, k < j + 1 → t.well → Den ns (k : Int) t → wr.cell? ⟨sb, k, none⟩ = some (.int .i64 (capS t.size)) := fun k t hk ht hd => by
            by_cases e : k = j
            · subst e
              rw [Den.inj ht HTJ.out hd HDJ.out]
              exact hcm
            · exact hsm.done k t (by omega) ht hd
          have HN : Hid (SzI sb ns.length ns w (j + 1) wr) := { hsm with done := hdone }
          clear hsm hki hcm HC12 HS12 HKV hdone
          go_wp2
          go_roundw
          case rel => exact ⟨j + 1, by omega, by go_num, hlm, HN.out⟩
          case measure => simp [intOf]; omega
    · obtain rfl : j = ns.length := by omega
      have HS : Hid (SzI sb ns.length ns w ns.length wr) := hsi
      clear hsi HI
      go_wp2
      go_ret
      exact ⟨sb, rfl, HS.out⟩
end Go.Proofs.YtdbpdanocpfboaaDoor
