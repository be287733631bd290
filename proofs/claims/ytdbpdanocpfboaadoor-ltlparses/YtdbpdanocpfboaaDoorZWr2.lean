import Derived.Test.YtdbpdanocpfboaaDoorZBun11
import Derived.Deep.LoopGhost
import Derived.Deep.DeepMust
/- The walk of ltl.write. -/
namespace Go.Proofs.YtdbpdanocpfboaaDoor
open Go.RowKit

theorem size_nil : (⟨#[]⟩ : ByteArray).size = 0 := rfl
theorem bset_not {B b k : Nat} {W : World} {cs : Array Value} {T : TypeId} (h : W.heap[k]? = some (.cells cs T (0, 0))) (hT : T ≠ 5) (hb : k ≠ b) : ¬ BSet B b W k := by
  rintro (e | ⟨_, c, hc⟩)
  · exact hb e
  · rw [h] at hc
    cases hc
    exact hT rfl
theorem eight_cells (w : World) (a b c d e f g h : Value) (t : TypeId) : ∀ j u, [a, b, c, d, e, f, g, h][j]? = some u → (w.alloc (.cells #[a, b, c, d, e, f, g, h] t)).cell? ((⟨w.heap.size, 0, none⟩ : Addr).add j) = some u := by
  intro j u hj
  match j, hj with
  | 0, hj => simp at hj; subst hj; simp [Addr.add]
  | 1, hj => simp at hj; subst hj; simp [Addr.add]
  | 2, hj => simp at hj; subst hj; simp [Addr.add]
  | 3, hj => simp at hj; subst hj; simp [Addr.add]
  | 4, hj => simp at hj; subst hj; simp [Addr.add]
  | 5, hj => simp at hj; subst hj; simp [Addr.add]
  | 6, hj => simp at hj; subst hj; simp [Addr.add]
  | 7, hj => simp at hj; subst hj; simp [Addr.add]
set_option maxRecDepth 100000 in
set_option maxHeartbeats 8000000 in
theorem write52 (w : World) (L : Nat) (ns : List Nd) (i : Int) (t : Tr) (hR : LRead w L ns) (ho : Ord ns) (hd : Den ns i t) (ht : t.well) (hsz : t.size ≤ 67108864) (hT : TabS w) :
    Calls Tryd.prog 52 #[.pointer (some ⟨L, 0, none⟩), .int .i64 i] w fun e w' => e = .returned (.string ⟨(printT t).toArray⟩) ∧ Kept (fun _ => False) w w' := by
  have HR : Hid (LRead w L ns) := hR
  have HO : Hid (Ord ns) := ho
  have HTB : Hid (TabS w) := hT
  have HLN : Hid ((printT t).length ≤ 5 * t.size) := printT_lenW _ t (Nat.le_refl _) ht
  obtain ⟨W0, hW0⟩ : ∃ W0, W0 = (w.alloc (.cells #[.pointer none, .slice none 0 0] 131)).alloc (.cells #[.string ⟨#[]⟩, .int .i64 i] 133) := ⟨_, rfl⟩
  have k01 : Kept (fun _ => False) w W0 := by rw [hW0]; exact ((Kept.refl _ _).alloc _).alloc _
  have hh : W0.heap = (w.heap.push (.cells #[.pointer none, .slice none 0 0] 131)).push (.cells #[.string ⟨#[]⟩, .int .i64 i] 133) := by rw [hW0]; rfl
  have g0 : W0.heap[w.heap.size]? = some (.cells #[.pointer none, .slice none 0 0] 131 (0, 0)) := by rw [hh]; exact (push2 _ _ _).1
  have g1 : W0.heap[w.heap.size + 1]? = some (.cells #[.string ⟨#[]⟩, .int .i64 i] 133 (0, 0)) := by rw [hh]; exact (push2 _ _ _).2
  have HWI : Hid (WI ns w w.heap.size [⟨⟨#[]⟩, i, t⟩] [] (.slice (some ⟨w.heap.size + 1, 0, none⟩) 1 1) W0) :=
    ⟨k01, ⟨rfl, .inr ⟨w.heap.size + 1, 1, _, rfl, by omega, g1, Nat.le_refl 1, by unfold maxLen; omega, rfl, rfl⟩⟩, .inl ⟨Nat.le_refl _, _, g0, World.ownsRow_nil _ _ _ _, by simp [Value.ownBlock]⟩, fun k hk => by obtain rfl := List.mem_singleton.1 hk; exact fun _ => ⟨hd, ht⟩⟩
  have HTX : Hid ([] ++ txtP [⟨⟨#[]⟩, i, t⟩] = printT t) := by simp [Hid, txtP, Pc.txt, ByteArray.size]
  clear hR ho hd ht g0 g1 hh hT
  go_enter Tryd.func52, Tryd.ntmps52
  go_upto_region 3 with fail
  rw [← hW0]
  clear hW0
  go_loopg [6, 7, 8, 9] (4 * t.size) (fun k sv _ _ _ wr => ∃ st out, WI ns w w.heap.size st out sv wr ∧ out ++ txtP st = printT t ∧ sumP st = k ∧ k ≤ 4 * t.size)
  case atStart => exact ⟨_, _, HWI.out, HTX.out, by simp [sumP, Pc.wt, ByteArray.size], Nat.le_refl _⟩
  case round =>
    obtain ⟨st, out, hwi, htx, hsum, hle⟩ := hrel
    cases st with
    | nil =>
      obtain ⟨sa, sc, rfl⟩ : ∃ sa sc, u6 = .slice sa 0 sc := by
        rcases hwi.own.2 with ⟨e, _⟩ | ⟨g', cap, cur, e, _⟩
        · exact ⟨_, _, e⟩
        · exact ⟨_, _, e⟩
      have ho : out = printT t := by simpa [txtP] using htx
      subst ho
      have HW : Hid (WI ns w w.heap.size [] (printT t) (.slice sa 0 sc) wr) := hwi
      clear hwi htx hsum HWI HTX
      go_wp2_with (go_at_call 89; refine (string89 w.heap.size w.heap.size (printT t) wr HW.out.bld (printT_ne t)).mono ?_; rintro e w2 ⟨rfl, hb⟩)
      go_ret
      exact ⟨rfl, HW.out.kept.trans (Kept.of_below hb) (fun k hk e => by omega)⟩
    | cons k st =>
      obtain ⟨g, cp, rfl⟩ := ownsRow_form (n := st.length) hwi.own
      have HW : Hid (WI ns w w.heap.size st out (.slice (some ⟨g, 0, none⟩) st.length cp) wr) := hwi.pop
      obtain ⟨q0, q1⟩ := hwi.top
      have HSUM : Hid (sumP (k :: st) = gk) := hsum
      have HTX2 : Hid (out ++ txtP (k :: st) = printT t) := htx
      have hstl : st.length + 1 ≤ 268435456 := by
        have := sumP_len (k :: st)
        simp only [List.length_cons] at this
        omega
      have hcp : st.length ≤ cp := own_cap HW.out.own
      have hok := hwi.ok k (by simp)
      have HOL : Hid (out.length ≤ 5 * t.size) := by
        have h2 := HLN.out
        have h3 := congrArg List.length htx
        rw [List.length_append] at h3
        rw [Hid]
        omega
      have hgw : g < wr.heap.size := (ownsRow_lt hwi.own rfl).1
      have hbw := hwi.lt
      clear hwi hsum HWI HTX htx
      go_upto_region 6 with fail
      obtain ⟨W1, hW1⟩ : ∃ W1, W1 = wr.alloc (.cells #[.string k.sg, .int .i64 k.id] 133) := ⟨_, rfl⟩
      have kW1 : Kept (fun _ => False) wr W1 := by rw [hW1]; exact (Kept.refl _ _).alloc _
      have s0 : W1.cell? ⟨wr.heap.size, 0, none⟩ = some (.string k.sg) := by rw [hW1]; simp
      have s1 : W1.cell? ⟨wr.heap.size, 1, none⟩ = some (.int .i64 k.id) := by rw [hW1]; simp
      rw [← hW1]
      clear hW1 q0 q1
      have HW1 : Hid (WI ns w w.heap.size st out (.slice (some ⟨g, 0, none⟩) st.length cp) W1) := HW.out.keep kW1
      clear HW
      obtain ⟨sg, ki, kt⟩ := k
      simp only at *
      by_cases hsg : sg.size = 0
      · obtain ⟨hkd, hkw⟩ : Den ns ki kt ∧ kt.well := hok hsg
        have hse : sg = ⟨#[]⟩ := by cases sg with | mk d => exact congrArg ByteArray.mk (Array.size_eq_zero_iff.1 hsg)
        subst hse
        have e1 : ((⟨#[]⟩ : ByteArray).toList == []) = true := by rw [Go.ByteArray.toList_eq]; rfl
        have e2 : ((⟨#[]⟩ : ByteArray).toList != []) = false := by rw [bne, e1]; rfl
        clear hsg hok
        obtain ⟨j, rfl⟩ : ∃ j : Nat, ki = (j : Int) := ⟨ki.toNat, by have := hkd.lt; omega⟩
        obtain ⟨o, nn, ks⟩ := kt
        obtain ⟨ids, hx, hks, hkl, hik⟩ := den_node HO.out hkd hkw
        have hmn : (mkNd o nn ids).n = nn := mkNd_n hkw hks
        have hmo : (mkNd o nn ids).op = o := mkNd_op o nn ids
        have hv : (mkNd o nn ids).v = .agg #[.int .i64 o, .int .i64 nn, .int .i64 (mkNd o nn ids).l, .int .i64 (mkNd o nn ids).r] := by rw [Nd.v, ndV, hmn, hmo]
        have HX : Hid (ns[j]? = some (mkNd o nn ids)) := hx
        have HV : Hid _ := hv
        have HKS : Hid (Dens ns ids ks) := hks
        have HKW : Hid ((Tr.mk o nn ks).well) := hkw
        have HIDS : Hid ((∀ a1, ids = [a1] → (mkNd o nn ids).l = a1) ∧ ∀ a1 b1, ids = [a1, b1] → (mkNd o nn ids).l = a1 ∧ (mkNd o nn ids).r = b1) := ⟨fun a1 e => by subst e; rfl, fun a1 b1 e => by subst e; exact ⟨rfl, rfl⟩⟩
        obtain ⟨jo, rfl⟩ : ∃ jo : Nat, o = (jo : Int) := ⟨o.toNat, by have := hkw.1.1; omega⟩
        have hjo : jo < 12 := by have := hkw.1.2.1; omega
        have hjoi : (jo : Int) < 12 := by omega
        clear hkd hkw hik hkl hks hx hmn hmo hv
        go_upto_region 9 with (go_at_call 61; refine (at56r W1 L j ns _ (HR.out.kept HW1.out.kept) HX.out).mono ?_; rintro e w2 ⟨rfl, k2⟩; rw [HV.out])
        generalize (mkNd (↑jo) nn ids).l = xl at *
        generalize (mkNd (↑jo) nn ids).r = xr at *
        obtain ⟨W3, hW3⟩ : ∃ W3, W3 = w2.alloc (.cells #[.int .i64 (jo : Int), .int .i64 nn, .int .i64 xl, .int .i64 xr] 102) := ⟨_, rfl⟩
        have kW3 : Kept (fun _ => False) W1 W3 := by rw [hW3]; exact k2.alloc _
        have x0 : W3.cell? ⟨w2.heap.size, 0, none⟩ = some (.int .i64 (jo : Int)) := by rw [hW3]; simp
        have x1 : W3.cell? ⟨w2.heap.size, 1, none⟩ = some (.int .i64 nn) := by rw [hW3]; simp
        have x2 : W3.cell? ⟨w2.heap.size, 2, none⟩ = some (.int .i64 xl) := by rw [hW3]; simp
        have x3 : W3.cell? ⟨w2.heap.size, 3, none⟩ = some (.int .i64 xr) := by rw [hW3]; simp
        have hbT : W3.heap[w2.heap.size]? = some (.cells #[.int .i64 (jo : Int), .int .i64 nn, .int .i64 xl, .int .i64 xr] 102 (0, 0)) := by rw [hW3]; exact (Go.MapKept.heap_alloc w2 _).1
        have hbne : w2.heap.size ≠ w.heap.size := by have := k2.size; have := kW1.size; omega
        rw [← hW3]
        have HW3 : Hid (WI ns w w.heap.size st out (.slice (some ⟨g, 0, none⟩) st.length cp) W3) := HW1.out.keep kW3
        obtain ⟨t0, t1⟩ := (HTB.out.keptS HW3.out.kept (fun f => f)) jo hjo
        rw [Nat.mul_comm] at t0 t1
        clear hW3 HW1 s0 s1 k2
        generalize hbn : w2.heap.size = bn at *
        have hbnl : bn < W3.heap.size := lt_of_cell x0
        clear hbn
        go_upto_region 11 with fail
        obtain ⟨W4, hW4⟩ : ∃ W4, W4 = W3.alloc (.cells #[.string (kindS jo), .int .i64 (kidC (jo : Int))] 140) := ⟨_, rfl⟩
        have kW4 : Kept (fun _ => False) W3 W4 := by rw [hW4]; exact (Kept.refl _ _).alloc _
        have y0 : W4.cell? ⟨W3.heap.size, 0, none⟩ = some (.string (kindS jo)) := by rw [hW4]; simp
        have y1 : W4.cell? ⟨W3.heap.size, 1, none⟩ = some (.int .i64 (kidC (jo : Int))) := by rw [hW4]; simp
        have HBT : Hid ((∃ cs, W4.heap[bn]? = some (.cells cs 102 (0, 0))) ∧ (∃ cs, W4.heap[W3.heap.size]? = some (.cells cs 140 (0, 0))) ∧ bn ≠ w.heap.size ∧ W3.heap.size ≠ w.heap.size) := ⟨⟨_, (kW4.block bn hbnl (fun f => f)).trans hbT⟩, ⟨_, by rw [hW4]; exact (Go.MapKept.heap_alloc W3 _).1⟩, hbne, by have := HW3.out.lt; omega⟩
        rw [← hW4]
        have HW4 : Hid (WI ns w w.heap.size st out (.slice (some ⟨g, 0, none⟩) st.length cp) W4) := HW3.out.keep kW4
        have z0 := (kW4.cell (p := ⟨bn, 0, none⟩) hbnl (fun f => f)).trans x0
        have z1 := (kW4.cell (p := ⟨bn, 1, none⟩) hbnl (fun f => f)).trans x1
        have z2 := (kW4.cell (p := ⟨bn, 2, none⟩) hbnl (fun f => f)).trans x2
        have z3 := (kW4.cell (p := ⟨bn, 3, none⟩) hbnl (fun f => f)).trans x3
        have hbn4 : bn < W4.heap.size := lt_of_cell z0
        clear hW4 x0 x1 x2 x3 t0 t1 HW3 kW4 kW3 hbnl hbT hbne
        generalize hbk : W3.heap.size = bk at *
        have hbk4 : bk < W4.heap.size := lt_of_cell y0
        clear hbk
        have hB4 : w.heap.size ≤ W4.heap.size := HW4.out.kept.size
        have hjn : (kindS jo).size ≤ 5 := by
          have : ∀ q, q < 12 → (kindS q).size ≤ 5 := by decide
          exact this jo hjo
        have hlim : (Lib.byteCells out).length + 5 ≤ 140737488355328 := by
          have := HOL.out
          rw [Lib.byteCells_length]
          omega
        rcases kids_len HKW.out.1 with ⟨rfl, hop⟩ | ⟨ta, rfl, hop⟩ | ⟨ta, tb, rfl, hop⟩
        · by_cases hj2 : jo = 2
          · subst hj2
            have hn0 : 0 ≤ nn ∧ nn ≤ 7 := by
              have := HKW.out.1.2.2.2
              exact ⟨this.1, this.2⟩
            have hw1 : IntKind.u8.wrap nn = nn := by rw [IntKind.wrap_u8]; omega
            have hw2 : IntKind.u8.wrap (97 + nn) = 97 + nn := by rw [IntKind.wrap_u8]; omega
            have HTXT : Hid ([Value.int .u8 (97 + nn)] = Lib.byteCells (printT (.mk ((2 : Nat) : Int) nn []))) := by
              have e : (UInt8.ofNat (97 + nn).toNat).toNat = (97 + nn).toNat := by simp; omega
              simp only [Hid, Lib.byteCells, printT]
              rw [if_neg (by decide), if_neg (by decide)]
              simp only [List.map_cons, List.map_nil, e]
              congr 2
              omega
            clear hop
            go_wp2_with (go_at_call 88; refine (writeByte88 w.heap.size w.heap.size (Lib.byteCells out) (97 + nn) W4 HW4.out.bld (by omega) hB4).mono ?_; rintro e w5 ⟨rfl, hb5, k5⟩)
            rw [HTXT.out, ← Lib.byteCells_append] at hb5
            have HW5 := HW4.out.wrote hb5 k5
            go_roundg (sumP st)
            case measure =>
              have := HSUM.out
              simp only [sumP, List.map_cons, List.sum_cons, Pc.wt, size_nil, if_true, Tr.size, Tr.sizes] at this ⊢
              omega
            case rel =>
              refine ⟨st, _, HW5, ?_, rfl, ?_⟩
              · have h2 := HTX2.out
                simp only [txtP, List.flatMap_cons, Pc.txt, size_nil, if_true] at h2 ⊢
                rw [List.append_assoc]
                exact h2
              · have := HSUM.out
                simp only [sumP, List.map_cons, List.sum_cons] at this ⊢
                omega
          · have hj2i : ((jo : Int) == 2) = false := by simp; omega
            have hkc : kidC (jo : Int) = 0 := by have := HKW.out.1.2.2.1; simpa using this.symm
            rw [hkc] at y1
            have HTXT : Hid ((kindS jo).data.toList = printT (.mk (jo : Int) nn [])) := by
              rcases hop with h | h | h
              · obtain rfl : jo = 0 := by omega
                rfl
              · obtain rfl : jo = 1 := by omega
                rfl
              · omega
            clear hop hkc
            go_wp2_with (go_at_call 87; refine (writeString87 w.heap.size w.heap.size (Lib.byteCells out) (kindS jo) W4 HW4.out.bld (by omega) hB4).mono ?_; rintro e w5 ⟨rfl, hb5, k5⟩)
            rw [Lib.strCells_eq, ← Lib.byteCells_append] at hb5
            have HW5 := HW4.out.wrote hb5 k5
            go_roundg (sumP st)
            case measure =>
              have := HSUM.out
              simp only [sumP, List.map_cons, List.sum_cons, Pc.wt, size_nil, if_true, Tr.size, Tr.sizes] at this ⊢
              omega
            case rel =>
              refine ⟨st, _, HW5, ?_, rfl, ?_⟩
              · have h2 := HTX2.out
                simp only [txtP, List.flatMap_cons, Pc.txt, size_nil, if_true] at h2 ⊢
                rw [HTXT.out, List.append_assoc]
                exact h2
              · have := HSUM.out
                simp only [sumP, List.map_cons, List.sum_cons] at this ⊢
                omega
        · have hj2i : ((jo : Int) == 2) = false := by simp; omega
          have hkc : kidC (jo : Int) = 1 := by have := HKW.out.1.2.2.1; simpa using this.symm
          rw [hkc] at y1
          obtain ⟨hk1, hk2⟩ := kindS_un hop
          have hjt : (jo : Int).toNat = jo := by omega
          rw [hjt] at hk1 hk2
          have HTXT : Hid ((kindS jo).data.toList = unS (jo : Int)) := hk1
          obtain ⟨a1, rfl, hda⟩ : ∃ a1, ids = [a1] ∧ Den ns a1 ta := by
            obtain ⟨a1, r, rfl, h1, h2⟩ := HKS.out
            have : r = [] := h2
            subst this
            exact ⟨a1, rfl, h1⟩
          have hxl := HIDS.out.1 a1 rfl
          subst hxl
          have HDA : Hid (Den ns xl ta ∧ ta.well) := ⟨hda, HKW.out.2.1⟩
          clear hop hkc hk1 hda hjt
          go_upto_region 18 with (go_at_call 87; refine (writeString87 w.heap.size w.heap.size (Lib.byteCells out) (kindS jo) W4 HW4.out.bld (by omega) hB4).mono ?_; rintro e w5 ⟨rfl, hb5, k5⟩)
          rw [Lib.strCells_eq, ← Lib.byteCells_append, HTXT.out] at hb5
          have HW5 : Hid (WI ns w w.heap.size st (out ++ unS (jo : Int)) (.slice (some ⟨g, 0, none⟩) st.length cp) w5) := HW4.out.wrote hb5 k5
          obtain ⟨⟨cs1, ht1⟩, ⟨cs2, ht2⟩, hq1, hq2⟩ := HBT.out
          have v2 := (k5.cell (p := ⟨bn, 2, none⟩) hbn4 (bset_not ht1 (by decide) hq1)).trans z2
          have hB5 : w.heap.size ≤ w5.heap.size := HW5.out.kept.size
          clear y0 y1 z0 z1 z2 z3 hb5 k5 ht1 ht2 hq1 hq2 HW4
          obtain ⟨i1, hi1, hy0, hy1, hy2⟩ := info_parts info133
          have v2' := cell_al v2
          go_wp2_with (at_builtin; go_must (refine wpList_append_own_at _ rfl _ _ 134 rfl w.heap.size 133 i1 _ 2 24 Tryd.underlying134 hi1 hy0 hy1 hy2 rfl (by decide) (.slice (some ⟨g, 0, none⟩) st.length cp) st.length _ rfl (HW5.out.own.alloc _) ⟨w5.heap.size, 0, none⟩ 1 1 [.string ⟨#[]⟩, .int .i64 xl] rfl rfl (two_cells _ _ _ _) (by intro y hy; simp at hy; rcases hy with rfl | rfl <;> rfl) (by unfold maxLen; omega) (by omega) (by simp; omega) ?_); intro sv6 w6 hown6 hgrow6 hnil6 hloc6)
          have HW6 : WI ns w w.heap.size ([(⟨⟨#[]⟩, xl, ta⟩ : Pc)].reverse ++ st) (out ++ unS (jo : Int)) sv6 w6 := (HW5.out.keep ((Kept.refl _ _).alloc (.cells #[.string ⟨#[]⟩, .int .i64 xl] 133))).push (l := [⟨⟨#[]⟩, xl, ta⟩]) (fun k hk => by obtain rfl := List.mem_singleton.1 hk; exact fun _ => HDA.out) (by simpa [flatP, Pc.cells] using hown6) hgrow6
          go_wp2
          go_roundg (sumP ([(⟨⟨#[]⟩, xl, ta⟩ : Pc)].reverse ++ st))
          case measure =>
            have := HSUM.out
            simp only [sumP, List.map_cons, List.reverse_cons, List.reverse_nil, List.nil_append, List.cons_append, List.sum_cons, Pc.wt, Tr.size, Tr.sizes, size_nil, if_true] at this ⊢
            omega
          case rel =>
            refine ⟨_, _, HW6, ?_, rfl, ?_⟩
            · have h2 := HTX2.out
              simp only [txtP, List.flatMap_cons, Pc.txt, size_nil, if_true, printT, List.reverse_cons, List.reverse_nil, List.nil_append, List.cons_append] at h2 ⊢
              simpa [List.append_assoc] using h2
            · have := HSUM.out
              simp only [sumP, List.map_cons, List.reverse_cons, List.reverse_nil, List.nil_append, List.cons_append, List.sum_cons, Pc.wt, Tr.size, Tr.sizes, size_nil, if_true] at this ⊢
              omega
        · have hj2i : ((jo : Int) == 2) = false := by simp; omega
          have hkc : kidC (jo : Int) = 2 := by have := HKW.out.1.2.2.1; simpa using this.symm
          rw [hkc] at y1
          obtain ⟨hk1, hk2, hk3⟩ := kindS_bi hop
          have hjt : (jo : Int).toNat = jo := by omega
          rw [hjt] at hk1 hk2 hk3
          have HTXT : Hid ((kindS jo).data.toList = biS (jo : Int) ∧ (kindS jo).size ≠ 0) := ⟨hk1, by omega⟩
          obtain ⟨a1, b1, rfl, hda, hdb⟩ : ∃ a1 b1, ids = [a1, b1] ∧ Den ns a1 ta ∧ Den ns b1 tb := by
            obtain ⟨a1, r, rfl, h1, b1, r2, rfl, h2, h3⟩ := HKS.out
            have : r2 = [] := h3
            subst this
            exact ⟨a1, b1, rfl, h1, h2⟩
          obtain ⟨hxl, hxr⟩ := HIDS.out.2 a1 b1 rfl
          subst hxl hxr
          have HDA : Hid ((Den ns xl ta ∧ ta.well) ∧ Den ns xr tb ∧ tb.well) := ⟨⟨hda, HKW.out.2.1⟩, hdb, HKW.out.2.2.1⟩
          clear hop hkc hk1 hk2 hk3 hda hdb hjt
          go_upto_region 15 with (go_at_call 88; refine (writeByte88 w.heap.size w.heap.size (Lib.byteCells out) 40 W4 HW4.out.bld (by omega) hB4).mono ?_; rintro e w5 ⟨rfl, hb5, k5⟩)
          have h40 : Lib.byteCells out ++ [.int .u8 40] = Lib.byteCells (out ++ [40]) := by rw [Lib.byteCells_append]; rfl
          rw [h40] at hb5
          have HW5 : Hid (WI ns w w.heap.size st (out ++ [40]) (.slice (some ⟨g, 0, none⟩) st.length cp) w5) := HW4.out.wrote hb5 k5
          obtain ⟨⟨cs1, ht1⟩, ⟨cs2, ht2⟩, hq1, hq2⟩ := HBT.out
          have v2 := (k5.cell (p := ⟨bn, 2, none⟩) hbn4 (bset_not ht1 (by decide) hq1)).trans z2
          have v3 := (k5.cell (p := ⟨bn, 3, none⟩) hbn4 (bset_not ht1 (by decide) hq1)).trans z3
          have v4 := (k5.cell (p := ⟨bk, 0, none⟩) hbk4 (bset_not ht2 (by decide) hq2)).trans y0
          have hB5 : w.heap.size ≤ w5.heap.size := HW5.out.kept.size
          clear y0 y1 z0 z1 z2 z3 hb5 k5 ht1 ht2 hq1 hq2 HW4 h40
          obtain ⟨i1, hi1, hy0, hy1, hy2⟩ := info_parts info133
          go_wp2_with (at_builtin; go_must (refine wpList_append_own_at _ rfl _ _ 134 rfl w.heap.size 133 i1 _ 2 24 Tryd.underlying134 hi1 hy0 hy1 hy2 rfl (by decide) (.slice (some ⟨g, 0, none⟩) st.length cp) st.length _ rfl (HW5.out.own.alloc _) ⟨w5.heap.size, 0, none⟩ 4 4 [.string ⟨#[41]⟩, .int .i64 0, .string ⟨#[]⟩, .int .i64 xr, .string (kindS jo), .int .i64 0, .string ⟨#[]⟩, .int .i64 xl] rfl rfl (eight_cells _ _ _ _ _ _ _ _ _ _) (by intro y hy; simp at hy; rcases hy with rfl | rfl | rfl | rfl | rfl | rfl | rfl | rfl <;> rfl) (by unfold maxLen; omega) (by omega) (by simp; omega) ?_); intro sv6 w6 hown6 hgrow6 hnil6 hloc6)
          have HW6 : WI ns w w.heap.size ([(⟨⟨#[41]⟩, 0, ta⟩ : Pc), ⟨⟨#[]⟩, xr, tb⟩, ⟨kindS jo, 0, ta⟩, ⟨⟨#[]⟩, xl, ta⟩].reverse ++ st) (out ++ [40]) sv6 w6 := (HW5.out.keep ((Kept.refl _ _).alloc (.cells #[.string ⟨#[41]⟩, .int .i64 0, .string ⟨#[]⟩, .int .i64 xr, .string (kindS jo), .int .i64 0, .string ⟨#[]⟩, .int .i64 xl] 133))).push (l := [(⟨⟨#[41]⟩, 0, ta⟩ : Pc), ⟨⟨#[]⟩, xr, tb⟩, ⟨kindS jo, 0, ta⟩, ⟨⟨#[]⟩, xl, ta⟩]) (fun k hk => by
            simp only [List.mem_cons, List.not_mem_nil, or_false] at hk
            rcases hk with rfl | rfl | rfl | rfl
            · exact fun h => by cases h
            · exact fun _ => HDA.out.2
            · exact fun h => absurd h HTXT.out.2
            · exact fun _ => HDA.out.1) (by simpa [flatP, Pc.cells] using hown6) hgrow6
          go_wp2
          have s41 : (⟨#[41]⟩ : ByteArray).size = 1 := rfl
          have hks0 := HTXT.out.2
          go_roundg (sumP ([(⟨⟨#[41]⟩, 0, ta⟩ : Pc), ⟨⟨#[]⟩, xr, tb⟩, ⟨kindS jo, 0, ta⟩, ⟨⟨#[]⟩, xl, ta⟩].reverse ++ st))
          case measure =>
            have := HSUM.out
            simp only [sumP, List.map_cons, List.reverse_cons, List.reverse_nil, List.nil_append, List.cons_append, List.sum_cons, Pc.wt, Tr.size, Tr.sizes, size_nil, s41, hks0, if_true, if_false, Nat.one_ne_zero] at this ⊢
            omega
          case rel =>
            refine ⟨_, _, HW6, ?_, rfl, ?_⟩
            · have h2 := HTX2.out
              simp only [txtP, List.flatMap_cons, Pc.txt, size_nil, s41, hks0, if_true, if_false, Nat.one_ne_zero, printT, List.reverse_cons, List.reverse_nil, List.nil_append, List.cons_append] at h2 ⊢
              rw [HTXT.out.1]
              simpa [List.append_assoc] using h2
            · have := HSUM.out
              simp only [sumP, List.map_cons, List.reverse_cons, List.reverse_nil, List.nil_append, List.cons_append, List.sum_cons, Pc.wt, Tr.size, Tr.sizes, size_nil, s41, hks0, if_true, if_false, Nat.one_ne_zero] at this ⊢
              omega
      · have e1 : (sg.toList == []) = false := by
          rw [Go.ByteArray.toList_eq]
          have : sg.data.size ≠ 0 := hsg
          cases h : sg.data.toList with
          | nil => exact absurd (by simpa using congrArg List.length h) this
          | cons => rfl
        have e2 : (sg.toList != []) = true := by rw [bne, e1]; rfl
        clear hok
        have hlim : (Lib.byteCells out).length + sg.size ≤ 140737488355328 := by
          have h2 := HTX2.out
          have h3 := congrArg List.length h2
          simp only [txtP, List.flatMap_cons, List.length_append, Pc.txt, hsg, if_false] at h3
          have h4 := HLN.out
          rw [Lib.byteCells_length]
          have h5 : sg.data.toList.length = sg.size := Array.length_toList
          omega
        go_wp2_with (go_at_call 87; refine (writeString87 w.heap.size w.heap.size (Lib.byteCells out) sg W1 HW1.out.bld hlim (Nat.le_trans HW1.out.kept.size (Nat.le_refl _))).mono ?_; rintro e w2 ⟨rfl, hb2, k2⟩)
        rw [Lib.strCells_eq, ← Lib.byteCells_append] at hb2
        have HW2 := HW1.out.wrote hb2 k2
        go_roundg (sumP st)
        case measure =>
          have := HSUM.out
          simp only [sumP, List.map_cons, List.sum_cons, Pc.wt, hsg, if_false] at this ⊢
          omega
        case rel =>
          refine ⟨st, _, HW2, ?_, rfl, ?_⟩
          · have h2 := HTX2.out
            simp only [txtP, List.flatMap_cons, Pc.txt, hsg, if_false] at h2 ⊢
            rw [List.append_assoc]
            exact h2
          · have := HSUM.out
            simp only [sumP, List.map_cons, List.sum_cons] at this ⊢
            omega
end Go.Proofs.YtdbpdanocpfboaaDoor
