/- Walks of package word: Truths, Holds. -/
import Derived.Test.YtdbpdanocpfboaaDoorVTi
namespace Go.Proofs.YtdbpdanocpfboaaDoor
open Go.RowKit

set_option maxRecDepth 100000 in
set_option maxHeartbeats 2000000 in
theorem truths27 (w : World) (B : Nat) (fv wv : Value) (hd lp : List Int) (t : Tr) (hW : WordV B w wv hd lp) (hF : FormV B w fv t) (hB : B ≤ w.heap.size) (hT : TabK w) (hB2 : 2 ≤ B) (hsz : t.size ≤ 268435456) :
    Calls Tryd.prog 27 #[fv, wv] w fun e w' => Kept (fun _ => False) w w' ∧ ((¬ (goodW hd lp = true ∧ t.well) ∧ e = .returned (.slice none 0 0)) ∨ (goodW hd lp = true ∧ t.well ∧ ∃ b v, e = .returned v ∧ w.heap.size ≤ b ∧ RowAt w' b v (tvT (hd ++ lp) hd.length t))) := by
  obtain ⟨op, n, kids⟩ := t
  obtain ⟨ka, kb, ko, kc, rfl, hka, hkF⟩ := id hF
  obtain ⟨hv1, lv1, rfl, h1, h2⟩ := id hW
  obtain ⟨ha, hc, rfl, _⟩ := h1.form
  obtain ⟨la, lc, rfl, _⟩ := h2.form
  have hk0 : Kept (fun _ => False) w ((w.alloc (.cells #[.int .i64 op, .int .i64 n, .slice ka kids.length kc] 24)).alloc (.cells #[.slice ha hd.length hc, .slice la lp.length lc] 49)) := ((Kept.refl _ _).alloc _).alloc _
  have hb0 : ((w.alloc (.cells #[.int .i64 op, .int .i64 n, .slice ka kids.length kc] 24)).alloc (.cells #[.slice ha hd.length hc, .slice la lp.length lc] 49)).cell? ⟨w.heap.size, 0, none⟩ = some (.int .i64 op) := by simp
  have hb1 : ((w.alloc (.cells #[.int .i64 op, .int .i64 n, .slice ka kids.length kc] 24)).alloc (.cells #[.slice ha hd.length hc, .slice la lp.length lc] 49)).cell? ⟨w.heap.size, 1, none⟩ = some (.int .i64 n) := by simp
  have hb2 : ((w.alloc (.cells #[.int .i64 op, .int .i64 n, .slice ka kids.length kc] 24)).alloc (.cells #[.slice ha hd.length hc, .slice la lp.length lc] 49)).cell? ⟨w.heap.size, 2, none⟩ = some (.slice ka kids.length kc) := by simp
  have hc0 : ((w.alloc (.cells #[.int .i64 op, .int .i64 n, .slice ka kids.length kc] 24)).alloc (.cells #[.slice ha hd.length hc, .slice la lp.length lc] 49)).cell? ⟨w.heap.size + 1, 0, none⟩ = some (.slice ha hd.length hc) := by rw [World.cell?_alloc_at (hn := by simp)]; rfl
  have hc1 : ((w.alloc (.cells #[.int .i64 op, .int .i64 n, .slice ka kids.length kc] 24)).alloc (.cells #[.slice ha hd.length hc, .slice la lp.length lc] 49)).cell? ⟨w.heap.size + 1, 1, none⟩ = some (.slice la lp.length lc) := by rw [World.cell?_alloc_at (hn := by simp)]; rfl
  go_enter Tryd.func27, Tryd.ntmps27
  go_upto_region 1 with fail
  generalize ((w.alloc (.cells #[.int .i64 op, .int .i64 n, .slice ka kids.length kc] 24)).alloc (.cells #[.slice ha hd.length hc, .slice la lp.length lc] 49)) = w1 at *
  have hB1 : B ≤ w1.heap.size := Nat.le_trans hB hk0.size
  have hW1 : Hid (WordV B w1 (.agg #[.slice ha hd.length hc, .slice la lp.length lc]) hd lp) := ⟨_, _, rfl, h1.below (hk0.below hB (fun _ f => f.elim)), h2.below (hk0.below hB (fun _ f => f.elim))⟩
  have hF1 : Hid (FormV B w1 (.agg #[.int .i64 op, .int .i64 n, .slice ka kids.length kc]) (.mk op n kids)) := hF.below (hk0.below hB (fun _ f => f.elim))
  have hT1 : Hid (TabK w1) := fun j hj => (hk0.cell (p := ⟨1, j, none⟩) (lt_of_cell (hT j hj)) (fun f => f)).trans (hT j hj)
  clear hW hF hT h1 h2 hka hkF
  have hlw : w.heap.size + 1 < w1.heap.size := lt_of_cell hc0
  cases hg : goodW hd lp with
  | false =>
    have HG : Hid _ := hg
    clear hg
    go_wp2_with (go_at_call 29; refine (good29 _ B _ hd lp hW1.out hB1).mono ?_; rintro e w2 ⟨rfl, hk1⟩; rw [HG.out])
    go_ret
    exact ⟨hk0.trans hk1 (fun _ _ f => f), .inl ⟨by rw [HG.out]; simp, rfl⟩⟩
  | true =>
    have HG : Hid _ := hg
    have hlen := goodW_len hg
    clear hg
    go_upto_region 3 with (go_at_call 29; refine (good29 _ B _ hd lp hW1.out hB1).mono ?_; rintro e w2 ⟨rfl, hk1⟩; rw [HG.out])
    have hB3 : B ≤ w2.heap.size := Nat.le_trans hB1 hk1.size
    have hW2 : Hid (WordV B w2 (.agg #[.slice ha hd.length hc, .slice la lp.length lc]) hd lp) := by
      obtain ⟨_, _, e, a1, a2⟩ := hW1.out
      exact ⟨_, _, e, a1.below (hk1.below hB1 (fun _ f => f.elim)), a2.below (hk1.below hB1 (fun _ f => f.elim))⟩
    have hF2 : Hid (FormV B w2 (.agg #[.int .i64 op, .int .i64 n, .slice ka kids.length kc]) (.mk op n kids)) := hF1.out.below (hk1.below hB1 (fun _ f => f.elim))
    have hT2 : Hid (TabK w2) := fun j hj => (hk1.cell (p := ⟨1, j, none⟩) (lt_of_cell (hT1.out j hj)) (fun f => f)).trans (hT1.out j hj)
    have kb0 := (hk1.cell (p := ⟨w.heap.size, 0, none⟩) (lt_of_cell hb0) (fun f => f)).trans hb0
    have kb1 := (hk1.cell (p := ⟨w.heap.size, 1, none⟩) (lt_of_cell hb1) (fun f => f)).trans hb1
    have kb2 := (hk1.cell (p := ⟨w.heap.size, 2, none⟩) (lt_of_cell hb2) (fun f => f)).trans hb2
    have kc0 := (hk1.cell (p := ⟨w.heap.size + 1, 0, none⟩) (lt_of_cell hc0) (fun f => f)).trans hc0
    have kc1 := (hk1.cell (p := ⟨w.heap.size + 1, 1, none⟩) (lt_of_cell hc1) (fun f => f)).trans hc1
    have hk02 : Kept (fun _ => False) w w2 := hk0.trans hk1 (fun _ _ f => f)
    clear hb0 hb1 hb2 hc0 hc1 hW1 hF1 hT1 hk1 hk0
    go_upto_region 4 with (go_at_call 49; refine (of49 _ B _ (.mk op n kids) hF2.out hB3 hT2.out hB2 hsz).mono ?_; rintro e w3 ⟨hk2, ⟨hnw, rfl⟩ | ⟨hw, L, bm, nv, ns, rfl, hL, hden, hord, hnl⟩⟩)
    · go_wp2
      go_ret
      exact ⟨hk02.trans hk2 (fun _ _ f => f), .inl ⟨fun h => hnw h.2, rfl⟩⟩
    · have hB4 : B ≤ w3.heap.size := Nat.le_trans hB3 hk2.size
      have hW3 : Hid (WordV B w3 (.agg #[.slice ha hd.length hc, .slice la lp.length lc]) hd lp) := by
        obtain ⟨_, _, e, a1, a2⟩ := hW2.out
        exact ⟨_, _, e, a1.below (hk2.below hB3 (fun _ f => f.elim)), a2.below (hk2.below hB3 (fun _ f => f.elim))⟩
      have hc0 := (hk2.cell (p := ⟨w.heap.size + 1, 0, none⟩) (lt_of_cell kc0) (fun f => f)).trans kc0
      have hc1 := (hk2.cell (p := ⟨w.heap.size + 1, 1, none⟩) (lt_of_cell kc1) (fun f => f)).trans kc1
      have hk03 : Kept (fun _ => False) w w3 := hk02.trans hk2 (fun _ _ f => f)
      have HR : Hid (LRead w3 L ns) := hL.read
      have HD : Hid _ := hden
      have HO : Hid (Ord ns) := hord
      have HWL : Hid _ := hw
      have hns : ns.length ≤ 536870912 := by omega
      clear kb0 kb1 kb2 kc0 kc1 hk2 hk02 hW2 hF2 hT2 hL hden hord hw hnl hlw hB1 hB3
      go_upto_region 6 with fail
      go_upto_region 7 with (go_at_call 59; refine (places60 _ B _ hd lp hW3.out hB4 hlen.1).mono ?_; rintro e w4 ⟨xb, rfl, hI⟩)
      have hk35 : Kept (fun _ => False) w3 (w4.alloc (.cells #[.slice (some ⟨xb, 0, none⟩) (hd.length + lp.length) (hd.length + lp.length), .int .i64 (hd.length : Int)] 97)) := hI.1.alloc _
      have hbx : Box2 (w4.alloc (.cells #[.slice (some ⟨xb, 0, none⟩) (hd.length + lp.length) (hd.length + lp.length), .int .i64 (hd.length : Int)] 97)) w4.heap.size (.slice (some ⟨xb, 0, none⟩) (hd.length + lp.length) (hd.length + lp.length)) (.int .i64 (hd.length : Int)) := ⟨by simp, by simp, by simp, by simp, by simp⟩
      have hxs : ∀ i, (h : i < (hd ++ lp).length) → (w4.alloc (.cells #[.slice (some ⟨xb, 0, none⟩) (hd.length + lp.length) (hd.length + lp.length), .int .i64 (hd.length : Int)] 97)).cell? ⟨xb, 0 + i, none⟩ = some (.int .i64 (hd ++ lp)[i]) := fun i hi => by
        rw [Nat.zero_add, ← hI.2.2.2.2 i hi]
        exact ((Kept.refl (fun _ => False) w4).alloc _).cell (p := ⟨xb, i, none⟩) (lt_of_cell (hI.2.2.2.2 i hi)) (fun f => f)
      generalize (w4.alloc (.cells #[.slice (some ⟨xb, 0, none⟩) (hd.length + lp.length) (hd.length + lp.length), .int .i64 (hd.length : Int)] 97)) = w5 at *
      generalize w4.heap.size = b7 at *
      have HR5 : Hid (LRead w5 L ns) := LRead.kept HR.out hk35
      have HBX : Hid (Box2 w5 b7 (.slice (some ⟨xb, 0, none⟩) (hd.length + lp.length) (hd.length + lp.length)) (.int .i64 (hd.length : Int))) := hbx
      have HXS : Hid (∀ i, (h : i < (hd ++ lp).length) → w5.cell? ⟨xb, 0 + i, none⟩ = some (.int .i64 (hd ++ lp)[i])) := hxs
      have hk05 : Kept (fun _ => False) w w5 := hk03.trans hk35 (fun _ _ f => f)
      obtain ⟨ls, lcc, hL0, _⟩ := id HR5.out
      obtain ⟨i0, hi, hz0, hz1, hz2⟩ := info_parts infoT
      have hmk : ∀ u : World, (Instr.makeSlice 99 (.int .i64 (ns.length : Int)) (.int .i64 (ns.length : Int))).run Tryd.prog u = .ok (.slice (some ⟨u.heap.size, 0, none⟩) ns.length ns.length) (u.alloc (.cells (madeCells #[.slice none 0 0] ns.length) 104)) := fun u => by
        have hh := run_make (P := Tryd.prog) u 99 104 i0 (.slice none 0 0) Tryd.underlying99 hi hz0 .i64 .i64 (ns.length : Int) (ns.length : Int) (by omega) (Int.le_refl _) (by rw [hz2]; omega) (by omega)
        simpa [hz1, Value.cells] using hh
      clear hk35 hbx hxs hI HR hc0 hc1 hW3 hk03 hi hz0 hz1 hz2
      go_upto_region 8 with (go_at_call 50; refine (len50 _ L ls ns.length lcc hL0).mono ?_; rintro e w' ⟨rfl, hw⟩; subst w')
      have hk6 : Kept (fun _ => False) w5 (w5.alloc (.cells (madeCells #[.slice none 0 0] ns.length) 104)) := (Kept.refl _ _).alloc _
      have hrows : ∀ i, i < ns.length → (w5.alloc (.cells (madeCells #[.slice none 0 0] ns.length) 104)).cell? ⟨w5.heap.size, i, none⟩ = some (.slice none 0 0) ∧ (w5.alloc (.cells (madeCells #[.slice none 0 0] ns.length) 104)).frozen? ⟨w5.heap.size, i, none⟩ = false := fun i hi => ⟨cell_made _ _ _ hi, by simp⟩
      have hs6 : w5.heap.size < (w5.alloc (.cells (madeCells #[.slice none 0 0] ns.length) 104)).heap.size := by simp
      generalize (w5.alloc (.cells (madeCells #[.slice none 0 0] ns.length) 104)) = w6 at *
      have HR6 : Hid (LRead w6 L ns) := LRead.kept HR5.out hk6
      have HOK : Hid (∀ (j : Nat) (x : Nd), ns[j]? = some x → ∀ i ∈ kidsL x, 0 ≤ i ∧ i < ns.length) := fun j x hx i hi => by
        have := ord_kids HO.out hx i hi
        have := (List.getElem?_eq_some_iff.1 hx).1
        omega
      clear hmk hL0
      have HROWS : Hid (∀ i, i < ns.length → w6.cell? ⟨w5.heap.size, i, none⟩ = some (.slice none 0 0) ∧ w6.frozen? ⟨w5.heap.size, i, none⟩ = false) := hrows
      clear hrows
      go_upto_region 9 with (go_at_call 60; refine (uses61 _ L ns HR6.out HOK.out).mono ?_; rintro e w7 ⟨cb, rfl, hcr⟩)
      have hk57 : Kept (fun _ => False) w5 w7 := hk6.trans hcr.1 (fun _ _ f => f)
      have hpos : 0 < ns.length := by
        obtain ⟨j, ids, e, hx, _⟩ := HD.out
        have := (List.getElem?_eq_some_iff.1 hx).1
        omega
      have hcb := hcr.2.1
      have hlc : cb < w7.heap.size := lt_of_cell (hcr.2.2 0 hpos).1
      have HTI : Hid (TI w7 w7 w5.heap.size cb ns.length 0 (fun k => (occ (ns.drop 0) k : Int)) (occ ns) (rowsN (hd ++ lp) hd.length ns)) :=
        ⟨Kept.refl _ _, fun k hk => hcr.2.2 k hk, fun k hk => ⟨_, (hcr.1.cell (p := ⟨w5.heap.size, k, none⟩) hs6 (fun f => f)).trans (HROWS.out k hk).1, (hcr.1.frozen (p := ⟨w5.heap.size, k, none⟩) hs6 (fun f => f)).trans (HROWS.out k hk).2, fun h => absurd h (by omega)⟩, Nat.lt_of_lt_of_le hs6 hcr.1.size, hlc, by omega⟩
      have HK5 : Hid (∀ (wr : World) (J : Nat) (f : Nat → Int), TI w7 wr w5.heap.size cb ns.length J f (occ ns) (rowsN (hd ++ lp) hd.length ns) → Kept (fun _ => False) w5 wr) := fun wr J f h => hk57.trans h.kept (fun k hk e => by omega)
      have HX : Hid (∀ (j : Nat) (x : Nd), ns[j]? = some x → (rowsN (hd ++ lp) hd.length ns).getD j [] = rowOp (hd ++ lp) hd.length x.op x.n (rowI (rowsN (hd ++ lp) hd.length ns) x.l) (rowI (rowsN (hd ++ lp) hd.length ns) x.r)) := fun j x hx => by
        obtain ⟨op, n, ids, e, hw, hi⟩ := HO.out j x hx
        have hlr := mkNd_lr (op := op) (n := n) hi
        rw [← e] at hlr
        rw [List.getD_eq_getElem?_getD, rowsN_at _ _ ns j x hx hlr.1 hlr.2, Option.getD_some]
      have hNl : 0 < (hd ++ lp).length := by rw [List.length_append]; omega
      have HRL : Hid (∀ k, k < ns.length → ((rowsN (hd ++ lp) hd.length ns).getD k []).length = (hd ++ lp).length) := fun k hk => rowsN_rowlen HO.out hNl k hk
      have HFIN : Hid ((rowsN (hd ++ lp) hd.length ns).getD (ns.length - 1) [] = tvT (hd ++ lp) hd.length (.mk op n kids)) := by
        rw [← rowsN_den (hd ++ lp) hd.length ns HO.out (.mk op n kids) _ HWL.out HD.out, ← rowI_getD]
        congr 1
        omega
      clear hcr hk6 HR6 HOK HROWS hs6
      generalize hRS : rowsN (hd ++ lp) hd.length ns = RS at *
      clear hRS
      have hrb5 : w5.heap.size = w5.heap.size := rfl
      generalize hrb : w5.heap.size = rb at *
      clear hrb5
      go_wp2_with fail
      go_loopw [10, 11, 13, 33] (fun _ _ _ i wr => ∃ j : Nat, j ≤ ns.length ∧ i = .int .i64 j ∧ TI w7 wr rb cb ns.length j (fun k => (occ (ns.drop j) k : Int)) (occ ns) RS) (fun _ _ _ i _ => ns.length - (intOf i).toNat)
      case atStart => exact ⟨0, Nat.zero_le _, rfl, HTI.out⟩
      case round =>
        obtain ⟨j, hj, rfl, hti⟩ := hrel
        by_cases hlt : j < ns.length
        · have hx : ns[j]? = some ns[j] := List.getElem?_eq_getElem hlt
          obtain ⟨xo, xn, xids, ex, hwn, hids⟩ := HO.out j _ hx
          have hkk : kidsL ns[j] = xids := by
            rw [ex]
            have := kidC_le hwn.1 hwn.2.1
            exact kidsL_mk (by have := hwn.2.2.1; omega) (fun i h => (hids i h).1)
          have hkid : ∀ i ∈ kidsL ns[j], 0 ≤ i ∧ i < j := ord_kids HO.out hx
          have hocc : ∀ k : Nat, (k : Int) ∈ kidsL ns[j] → 0 < occ (ns.drop j) k ∧ occ ns k ≠ 0 := occ_kid ns j _ hx
          have hod := occ_drop ns j _ hx
          have hrow := HX.out j _ hx
          have hkl := kidsL_length ns[j]
          have hk5r := HK5.out _ _ _ hti
          have HTJ : Hid (TI w7 wr rb cb ns.length j (fun k => (occ (ns.drop j) k : Int)) (occ ns) RS) := hti
          have HXJ : Hid (ns[j]? = some ns[j]) := hx
          have hlti : (j : Int) < (ns.length : Int) := by omega
          have HROWC : Hid (∀ w9 : World, Kept (fun _ => False) wr w9 → Calls Tryd.prog 62 #[.agg #[.slice (some ⟨xb, 0, none⟩) (hd.length + lp.length) (hd.length + lp.length), .int .i64 (hd.length : Int)], ns[j].v, .slice (some ⟨rb, 0, none⟩) ns.length ns.length] w9 fun e w' => Post62 w9 (RS.getD j []) e w') := fun w9 hk9 => by
            have hk59 : Kept (fun _ => False) w5 w9 := hk5r.trans hk9 (fun _ _ f => f)
            have h9 := TI.keep HTJ.out hk9
            have hlen' : (hd ++ lp).length = hd.length + lp.length := List.length_append
            rw [hrow, ex, ← hlen']
            refine row62 w9 xb _ hd.length rb ns.length (hd ++ lp) xo xn xids RS (by omega) (by omega) (fun i hi => (hk59.cell (p := ⟨xb, 0 + i, none⟩) (lt_of_cell (HXS.out i hi)) (fun f => f)).trans (HXS.out i hi)) hwn (fun i hi => ?_)
            have hij := hids i hi
            obtain ⟨k, rfl⟩ : ∃ k : Nat, i = k := ⟨i.toNat, by omega⟩
            have hkM : k < ns.length := by omega
            obtain ⟨v, g1, g2, g3⟩ := h9.row k hkM
            have ho := hocc k (by rw [hkk]; exact hi)
            obtain ⟨b, g4, g5⟩ := g3 (by omega) (.inl (by omega))
            refine ⟨k, rfl, hkM, v, g1, ?_, ?_⟩
            · rw [rowI_getD]
              exact ⟨b, g5.1, fun i hi => (g5.2.2 i hi).1⟩
            · rw [rowI_getD]
              exact HRL.out k hkM
          have HOC : Hid (∀ k : Nat, (k : Int) ∈ kidsL ns[j] → 0 < occ (ns.drop j) k ∧ occ ns k ≠ 0) := hocc
          have HOD : Hid (∀ k : Nat, occ (ns.drop j) k = occ (ns.drop (j + 1)) k + (kidsL ns[j]).count (k : Int)) := hod
          have HKD : Hid (∀ i ∈ kidsL ns[j], 0 ≤ i ∧ i < (j : Int)) := hkid
          clear hx ex hwn hids hkk hocc hod hrow hti hkid
          generalize ns[j] = y at *
          obtain ⟨yo, yn, yl, yr⟩ := y
          go_upto_region 13 with (go_at_call 61; refine (at56r _ L j ns ⟨yo, yn, yl, yr⟩ (HR5.out.kept hk5r) HXJ.out).mono ?_; rintro e w8 ⟨rfl, hk8⟩; simp only [Nd.v, ndV])
          have hk9 : Kept (fun _ => False) wr (w8.alloc (.cells #[.int .i64 yo, .int .i64 yn, .int .i64 yl, .int .i64 yr] 102)) := hk8.alloc _
          have hy0 : (w8.alloc (.cells #[.int .i64 yo, .int .i64 yn, .int .i64 yl, .int .i64 yr] 102)).cell? ⟨w8.heap.size, 0, none⟩ = some (.int .i64 yo) := by simp
          have hy1 : (w8.alloc (.cells #[.int .i64 yo, .int .i64 yn, .int .i64 yl, .int .i64 yr] 102)).cell? ⟨w8.heap.size, 1, none⟩ = some (.int .i64 yn) := by simp
          have hy2 : (w8.alloc (.cells #[.int .i64 yo, .int .i64 yn, .int .i64 yl, .int .i64 yr] 102)).cell? ⟨w8.heap.size, 2, none⟩ = some (.int .i64 yl) := by simp
          have hy3 : (w8.alloc (.cells #[.int .i64 yo, .int .i64 yn, .int .i64 yl, .int .i64 yr] 102)).cell? ⟨w8.heap.size, 3, none⟩ = some (.int .i64 yr) := by simp
          have hb8 : wr.heap.size ≤ w8.heap.size := hk8.size
          generalize w8.heap.size = b8 at *
          generalize (w8.alloc (.cells #[.int .i64 yo, .int .i64 yn, .int .i64 yl, .int .i64 yr] 102)) = w9 at *
          obtain ⟨_, hx0, hx1, _⟩ := Box2.kept HBX.out (hk5r.trans hk9 (fun _ _ f => f))
          have HC9 := HROWC.out w9 hk9
          obtain ⟨rj, hrj⟩ : ∃ rj, rj = RS.getD j [] := ⟨_, rfl⟩
          rw [← hrj] at HC9
          have HRJ : Hid (rj = RS.getD j []) := hrj
          clear hrj
          have HC : Hid _ := HC9
          clear HC9 HROWC
          have HT9 : Hid (TI w7 w9 rb cb ns.length j (fun k => (occ (ns.drop j) k : Int)) (occ ns) RS) := TI.keep HTJ.out hk9
          have hb87 : w7.heap.size ≤ b8 := Nat.le_trans HTJ.out.kept.size hb8
          have hlr7 := HTJ.out.lr
          have h7r := HTJ.out.kept.size
          clear hk8 HTJ
          go_upto_region 14 with (go_at_call 62; refine Calls.mono HC.out ?_; rintro e w10 ⟨b10, v10, rfl, hb10, hr10, hk10⟩; have HR10 : Hid (RowAt w10 b10 v10 rj) := hr10; have e10 := hr10.1; clear hr10; subst e10; obtain ⟨vo, ho1, ho2, _⟩ := (TI.keep HT9.out hk10).row j hlt)
          have hr11 := HR10.out
          rw [HRJ.out] at hr11
          have ht11 := (TI.keep HT9.out hk10).setRow hlt (by have := hk9.size; omega) hr11
          rw [← HRJ.out] at ht11
          have HT11 : Hid (TI w7 (w10.setCell ⟨rb, j, none⟩ (.slice (some ⟨b10, 0, none⟩) rj.length rj.length)) rb cb ns.length (j + 1) (fun k => (occ (ns.drop j) k : Int)) (occ ns) RS) := ht11
          clear hr11 ht11
          have hz0 := (hk10.cell (p := ⟨b8, 0, none⟩) (lt_of_cell hy0) (fun f => f)).trans hy0
          have hz1 := (hk10.cell (p := ⟨b8, 1, none⟩) (lt_of_cell hy1) (fun f => f)).trans hy1
          have hz2 := (hk10.cell (p := ⟨b8, 2, none⟩) (lt_of_cell hy2) (fun f => f)).trans hy2
          have hz3 := (hk10.cell (p := ⟨b8, 3, none⟩) (lt_of_cell hy3) (fun f => f)).trans hy3
          have oth : ∀ i v, (w10.setCell ⟨rb, j, none⟩ v).cell? ⟨b8, i, none⟩ = w10.cell? ⟨b8, i, none⟩ := fun i v => World.cell?_setCell_other _ _ _ _ (by intro e; cases e; omega)
          rw [← oth _ (.slice (some ⟨b10, 0, none⟩) rj.length rj.length)] at hz0 hz1 hz2 hz3
          clear oth hy0 hy1 hy2 hy3 HT9 HR10 HC hx0 hx1 hk9 hk10 ho1 ho2
          generalize w10.setCell ⟨rb, j, none⟩ (.slice (some ⟨b10, 0, none⟩) rj.length rj.length) = w11 at *
          go_wp2_with (go_at_call 63; refine (kids63 _ ⟨yo, yn, yl, yr⟩).mono ?_; rintro e w12 ⟨ka, kc, rfl, hkv, hk12⟩)
          generalize kidsL ⟨yo, yn, yl, yr⟩ = ks at *
          have HT12 : Hid (TI w7 w12 rb cb ns.length (j + 1) (fun k => (occ (ns.drop j) k : Int)) (occ ns) RS) := TI.keep HT11.out hk12
          have HKV : Hid (NewInts w11 w12 ka ks) := hkv
          have h11 : w7.heap.size ≤ w11.heap.size := HT11.out.kept.size
          have hlc7 := HT11.out.lc
          clear hz0 hz1 hz2 hz3 hkv hk12 HT11 HRJ
          go_loopw [13, 49] (fun _ i wq => ∃ m : Nat, m ≤ ks.length ∧ i = .int .i64 m ∧ NewInts w11 wq ka ks ∧ TI w7 wq rb cb ns.length (j + 1) (fun k => (occ (ns.drop (j + 1)) k : Int) + ((ks.drop m).count (k : Int) : Int)) (occ ns) RS) (fun _ i _ => ks.length - (intOf i).toNat)
          case atStart => exact ⟨0, Nat.zero_le _, rfl, HKV.out, HT12.out.congr (fun i hi => by rw [HOD.out i]; simp)⟩
          case round =>
            obtain ⟨m, hm, rfl, hki, htm⟩ := hrel
            by_cases hmt : m < ks.length
            · have hxm : ks[m]? = some ks[m] := List.getElem?_eq_getElem hmt
              have hkr := HKD.out ks[m] (List.getElem_mem hmt)
              have hmem : ks[m] ∈ ks := List.getElem_mem hmt
              have HST : Hid (∀ k : Nat, (ks.drop m).count (k : Int) = (ks.drop (m + 1)).count (k : Int) + if ks[m] = (k : Int) then 1 else 0) := fun k => by
                rw [List.drop_eq_getElem_cons hmt, List.count_cons]
                simp
              obtain ⟨kb, rfl, hkb, hkc⟩ := hki m _ hxm
              obtain ⟨k, hk⟩ : ∃ k : Nat, ks[m] = (k : Int) := ⟨ks[m].toNat, by omega⟩
              rw [hk] at hkc hkr HST hmem
              have hkn : k < ns.length := by omega
              obtain ⟨hc1, hf1⟩ := htm.cnt k hkn
              obtain ⟨rv, hc2, hf2, _⟩ := htm.row k hkn
              have hoc := (HOC.out k hmem).2
              have HTM : Hid _ := htm
              have HKI : Hid (NewInts w11 _ (some ⟨kb, 0, none⟩) ks) := hki
              have hst := HST.out k
              rw [if_pos rfl] at hst
              have q1 := occ_le (ns.drop (j + 1)) k
              have q2 : (ks.drop (m + 1)).count (k : Int) ≤ (ks.drop (m + 1)).length := List.count_le_length
              rw [List.length_drop] at q1 q2
              clear hxm htm hki hk
              obtain ⟨c, hce⟩ : ∃ c : Int, c = (occ (ns.drop (j + 1)) k : Int) + ((ks.drop m).count (k : Int) : Int) := ⟨_, rfl⟩
              have hcb1 : 1 ≤ c ∧ c ≤ 4000000000 := by omega
              rw [← hce] at hc1
              have HCE : Hid _ := hce
              have HSTk : Hid _ := hst
              clear hce hst q1 q2
              have hmti : (m : Int) < (ks.length : Int) := by omega
              have hkni : (k : Int) < (ns.length : Int) := by omega
              have hwr : wrap64 (c - 1) = c - 1 := wrap_in _ (by omega)
              have hner := HTM.out.ne
              have hcl : cb < w11.heap.size := Nat.lt_of_lt_of_le hlc7 h11
              have hrl : rb < w11.heap.size := Nat.lt_of_lt_of_le hlr7 h11
              have HG1 : Hid (∀ i : Nat, i < ns.length → (occ (ns.drop (j + 1)) i : Int) + ((ks.drop (m + 1)).count (i : Int) : Int) = if i = k then c - 1 else (occ (ns.drop (j + 1)) i : Int) + ((ks.drop m).count (i : Int) : Int)) := fun i hi => by
                have h1 := HST.out i
                have h2 := HCE.out
                by_cases e : i = k
                · subst e
                  have h3 := HSTk.out
                  rw [if_pos rfl]
                  omega
                · rw [if_neg (by omega)] at h1
                  rw [if_neg e, h1]
                  rfl
              have HTS : Hid (TI w7 (wr.setCell ⟨cb, k, none⟩ (.int .i64 (c - 1))) rb cb ns.length (j + 1) (fun i => (occ (ns.drop (j + 1)) i : Int) + ((ks.drop (m + 1)).count (i : Int) : Int)) (occ ns) RS) := TI.setCnt HTM.out hkn (by have := HCE.out; omega) HG1.out
              have HGk := HG1.out k hkn
              rw [if_pos rfl] at HGk
              have HGK : Hid _ := HGk
              clear HGk
              by_cases hz : c = 1
              · subst hz
                have hc3 : (wr.setCell ⟨cb, k, none⟩ (.int .i64 0)).cell? ⟨rb, k, none⟩ = some rv := by
                  rw [World.cell?_setCell_other _ _ _ _ (by intro e; cases e; exact hner rfl)]
                  exact hc2
                go_wp2
                go_roundw
                case rel => exact ⟨m + 1, by omega, by go_num, NewInts.set (NewInts.set HKI.out hcl _) hrl _, TI.setNil HTS.out hkn (by have := HGK.out; omega) hoc _⟩
                case measure => simp [intOf]; omega
              · have hzb : (c - 1 == 0) = false := by simp; omega
                go_wp2
                go_roundw
                case rel => exact ⟨m + 1, by omega, by go_num, NewInts.set HKI.out hcl _, HTS.out⟩
                case measure => simp [intOf]; omega
            · obtain rfl : m = ks.length := by omega
              have HTM : Hid _ := htm
              clear htm hki
              go_wp2
              go_roundw
              case rel => exact ⟨j + 1, by omega, by go_num, TI.congr HTM.out (fun i hi => by simp)⟩
              case measure => simp [intOf]; omega
        · obtain rfl : j = ns.length := by omega
          have hlast : ns.length - 1 < ns.length := by omega
          obtain ⟨v, g1, g2, g3⟩ := hti.row (ns.length - 1) hlast
          obtain ⟨b, g4, g5⟩ := g3 hlast (.inr (occ_last HO.out))
          rw [HFIN.out] at g5
          have HK : Hid _ := HK5.out _ _ _ hti
          have HG5 : Hid _ := g5
          have e1 : ((ns.length : Int) - 1) = ((ns.length - 1 : Nat) : Int) := by omega
          clear hti g3 g5
          go_wp2
          go_ret
          exact ⟨hk05.trans HK.out (fun _ _ f => f), .inr ⟨HG.out, HWL.out, b, v, rfl, by have := hk05.size; have := hk57.size; omega, HG5.out⟩⟩
end Go.Proofs.YtdbpdanocpfboaaDoor
