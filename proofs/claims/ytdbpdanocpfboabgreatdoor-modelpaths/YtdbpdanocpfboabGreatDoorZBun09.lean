import Derived.Test.YtdbpdanocpfboabGreatDoorZBld
import Derived.Test.YtdbpdanocpfboabGreatDoorZPt
import Derived.Test.YtdbpdanocpfboabGreatDoorZSo
import Derived.Test.YtdbpdanocpfboabGreatDoorZRr
/- The program's text of a model, Good, Print. -/
namespace Go.Proofs.YtdbpdanocpfboabGreatDoor
open Go.RowKit

theorem isB_of {W W' : World} {B b : Nat} {bs : List Value} (h : Lib.IsBuilder 89 5 B b bs W) (hk : Kept (fun _ => False) W W') : Lib.IsBuilder 89 5 B b bs W' := by
  have key : ∀ p, Lib.BuilderAt 89 5 B b p bs W → Lib.BuilderAt 89 5 B b p bs W' := by
    rintro p ⟨h1, v, h2, h3, h4⟩
    exact ⟨h1, v, (hk.block b (Array.getElem?_eq_some_iff.1 h2).1 (fun f => f)).trans h2, ownsRow_of_block h3 (fun k hk' => hk.block k (ownsRow_lt h3 hk').1 (fun f => f)), h4⟩
  rcases h with h | h
  · exact .inl (key _ h)
  · exact .inr (key _ h)
theorem strCells_app (a s : ByteArray) : Lib.strCells (a ++ s) = Lib.strCells a ++ Lib.strCells s := by simp [Lib.strCells, ByteArray.data_append]
theorem strCells_nl (a : ByteArray) : Lib.strCells a ++ [.int .u8 10] = Lib.strCells (a ++ nl) := by rw [strCells_app]; rfl
theorem app_assoc (a b c : ByteArray) : a ++ b ++ c = a ++ (b ++ c) := ByteArray.append_assoc
theorem spgt_eq : spgt = sp ++ ⟨#[62]⟩ := rfl
theorem textM_ne {m : MD} (h : 0 < m.names.length) : (textM m).data.toList ≠ [] := by
  unfold textM
  obtain ⟨k, hk⟩ : ∃ k, m.names.length = k + 1 := ⟨m.names.length - 1, by omega⟩
  rw [hk, textA]
  simp [ByteArray.data_append, nl]

set_option maxRecDepth 100000 in
set_option maxHeartbeats 4000000 in
theorem text35 (w : World) (B : Nat) (v : Value) (m : MD) (hm : ModV B w v m) (hf : FitsP m) (hB : B ≤ w.heap.size) : Calls Tryz.prog 35 #[v] w fun e w' => Kept (fun _ => False) w w' ∧ e = .returned (.string (textM m)) := by
  obtain ⟨nb, no, nc, lb, lo, lc, tb, to_, tc, rb, ro, rc, rfl, hr⟩ := MRd.mk' hm hB hf.n0 (by rw [hf.l]; exact hf.n0) (by rw [hf.t]; exact hf.n0)
  obtain ⟨W0, hW0⟩ : ∃ W0, W0 = (w.alloc (.cells #[.slice (some ⟨nb, no, none⟩) m.names.length nc, .slice (some ⟨lb, lo, none⟩) m.letters.length lc, .slice (some ⟨tb, to_, none⟩) m.tos.length tc] 26)).alloc (.cells #[.pointer none, .slice none 0 0] 89) := ⟨_, rfl⟩
  have k0 : Kept (fun _ => False) w W0 := by rw [hW0]; exact ((Kept.refl _ _).alloc _).alloc _
  have s0 : W0.heap.size = w.heap.size + 2 := by rw [hW0]; simp
  have b0 : W0.heap[w.heap.size]? = some (.cells #[.slice (some ⟨nb, no, none⟩) m.names.length nc, .slice (some ⟨lb, lo, none⟩) m.letters.length lc, .slice (some ⟨tb, to_, none⟩) m.tos.length tc] 26 (0, 0)) := by rw [hW0]; exact (Below.heap_alloc _ _ _ (by simp)).trans (alloc_blk _ _)
  have bb0 : W0.heap[w.heap.size + 1]? = some (.cells #[.pointer none, .slice none 0 0] 89 (0, 0)) := by rw [hW0]; have := alloc_blk (w.alloc (.cells #[.slice (some ⟨nb, no, none⟩) m.names.length nc, .slice (some ⟨lb, lo, none⟩) m.letters.length lc, .slice (some ⟨tb, to_, none⟩) m.tos.length tc] 26)) (.cells #[.pointer none, .slice none 0 0] 89); rwa [World.size_alloc] at this
  have HI0 : Hid (Lib.IsBuilder 89 5 (w.heap.size + 1) (w.heap.size + 1) (Lib.strCells (textA m 0)) W0) := .inl ⟨Nat.le_refl _, _, bb0, ⟨rfl, .inl ⟨rfl, rfl⟩⟩, by simp [Value.ownBlock]⟩
  have HR : Hid (MRd w nb no nc lb lo lc tb to_ tc rb ro rc m) := hr
  have HKW : Hid (∀ W, Kept (fun k => w.heap.size + 1 ≤ k) W0 W → Kept (fun _ => False) w W) := fun W hk => k0.trans hk (fun k hk' e => by omega)
  have HBX : Hid (∀ W, Kept (fun k => w.heap.size + 1 ≤ k) W0 W → W.cell? ⟨w.heap.size, 0, none⟩ = some (.slice (some ⟨nb, no, none⟩) m.names.length nc) ∧ W.cell? ⟨w.heap.size, 1, none⟩ = some (.slice (some ⟨lb, lo, none⟩) m.letters.length lc) ∧ W.cell? ⟨w.heap.size, 2, none⟩ = some (.slice (some ⟨tb, to_, none⟩) m.tos.length tc)) := fun W hk =>
    ⟨(hk.cell (p := ⟨w.heap.size, 0, none⟩) (lt_of_cell (blk_cell b0 0)) (by simp)).trans (blk_cell b0 0), (hk.cell (p := ⟨w.heap.size, 1, none⟩) (lt_of_cell (blk_cell b0 1)) (by simp)).trans (blk_cell b0 1), (hk.cell (p := ⟨w.heap.size, 2, none⟩) (lt_of_cell (blk_cell b0 2)) (by simp)).trans (blk_cell b0 2)⟩
  have HSZ : Hid (∀ W, Kept (fun k => w.heap.size + 1 ≤ k) W0 W → w.heap.size + 1 ≤ W.heap.size) := fun W hk => by have := hk.size; omega
  have HBS : Hid (∀ W W', Kept (fun k => w.heap.size + 1 ≤ k) W0 W → Kept (BSet (w.heap.size + 1) (w.heap.size + 1) W) W W' → Kept (fun k => w.heap.size + 1 ≤ k) W0 W') := fun W W' h1 h2 => h1.trans h2 (fun k _ e => by rcases e with e | ⟨e, _⟩ <;> omega)
  have HF : Hid (FitsP m) := hf
  have hn12 := hf.n12
  have hn0 := hf.n0
  clear hm hr hf k0 b0 bb0 s0
  go_enter Tryz.func35, Tryz.ntmps35
  go_upto_region 2 with fail
  rw [← hW0]
  clear hW0
  obtain ⟨x0, x1, x2⟩ := HBX.out W0 (Kept.refl _ _)
  go_wp2
  clear x0 x1 x2
  go_loopw [11] (fun iv wr => ∃ k : Nat, k ≤ m.names.length ∧ iv = .int .i64 k ∧ Lib.IsBuilder 89 5 (w.heap.size + 1) (w.heap.size + 1) (Lib.strCells (textA m k)) wr ∧ Kept (fun k => w.heap.size + 1 ≤ k) W0 wr) (fun iv _ => m.names.length - (intOf iv).toNat)
  case atStart => exact ⟨0, Nat.zero_le _, rfl, HI0.out, Kept.refl _ _⟩
  case round =>
    obtain ⟨k, hk, rfl, hib, hkr⟩ := hrel
    have HIB : Hid _ := hib
    clear hib
    obtain ⟨x0, x1, x2⟩ := HBX.out wr hkr
    by_cases hlt : k < m.names.length
    · have hki : (k : Int) < (m.names.length : Int) := by omega
      have hll : k < m.letters.length := by rw [HF.out.l]; exact hlt
      have htl : k < m.tos.length := by rw [HF.out.t]; exact hlt
      have hki2 : (k : Int) < (m.letters.length : Int) := by omega
      have hki3 : (k : Int) < (m.tos.length : Int) := by omega
      have cn := HR.out.nm wr (HKW.out wr hkr) k hlt
      have cl := HR.out.lt wr (HKW.out wr hkr) k hll
      have hlr := HF.out.lt _ (List.getElem_mem hll)
      have sz := textA_size HF.out k
      have sn : (m.names[k]).size ≤ 6 := (nameB_size (HF.out.nm _ (List.getElem_mem hlt))).2
      have hsh := headA_size HF.out k (textA m k)
      have HTX : Hid (textA m (k + 1) = rowA m (headA m k (textA m k)) m.tos[k] ++ nl) := by rw [Hid, textA, getD_at htl]
      obtain ⟨x, hx⟩ : ∃ x : Nat, m.letters[k] = (x : Int) := ⟨(m.letters[k]).toNat, by omega⟩
      have HHD : Hid (headA m k (textA m k) = textA m k ++ (m.names[k] ++ ⟨#[32]⟩ ++ shownB x ++ ⟨#[32]⟩ ++ ⟨#[62]⟩)) := by
        rw [Hid, headA, getD_at hlt, getD_at hll, hx, spgt_eq]
        simp only [app_assoc, Int.toNat_natCast]
        rfl
      have hx255 : x ≤ 255 := by omega
      have szz : (shownB x).size ≤ 8 := shownB_size _
      rw [hx] at cl
      clear hx hlr
      generalize hacc : textA m k = acc at *
      generalize hnk : m.names[k] = nk at *
      generalize hz : shownB x = z at *
      have a1 : ¬ 9223372036854775807 < nk.size + 1 := by omega
      have a2 : ¬ 9223372036854775807 < nk.size + 1 + z.size := by omega
      have a3 : ¬ 9223372036854775807 < nk.size + 1 + z.size + 1 := by omega
      have a4 : ¬ 9223372036854775807 < nk.size + 1 + z.size + 1 + 1 := by omega
      have HSS : Hid ((nk ++ ⟨#[32]⟩ ++ z ++ ⟨#[32]⟩ ++ ⟨#[62]⟩).size ≤ 20) := by
        rw [Hid]
        simp only [size_app]
        show nk.size + 1 + z.size + 1 + 1 ≤ 20
        omega
      go_upto_region 6 with (first
        | (go_at_call 65; refine (text65 wr x hx255).mono ?_; rw [hz]; rintro e w1 ⟨k1, rfl⟩)
        | (go_at_call 64; refine (writeString64 (w.heap.size + 1) (w.heap.size + 1) (Lib.strCells acc) _ w1 (isB_of HIB.out k1) (by rw [Lib.strCells_length]; have := HSS.out; omega) (Nat.le_trans (HSZ.out wr hkr) k1.size)).mono ?_; rintro e w2 ⟨rfl, hb2, k2⟩))
      have hkr2 := HBS.out w1 w2 (hkr.trans k1 (fun _ _ f => f.elim)) k2
      have HB2 : Hid (Lib.IsBuilder 89 5 (w.heap.size + 1) (w.heap.size + 1) (Lib.strCells (headA m k acc)) w2) := .inr (by rw [HHD.out, strCells_app]; exact hb2)
      clear cn cl x0 x1 x2 k1 k2 hkr a1 a2 a3 a4 hb2
      generalize hhd : headA m k acc = hd at *
      have hrne : m.tos[k] ≠ [] := HF.out.ne _ (List.getElem_mem htl)
      have hrl : (m.tos[k]).length ≤ 12 := by have := HF.out.row k; rwa [getD_at htl] at this
      obtain ⟨x0, x1, x2⟩ := HBX.out w2 hkr2
      have ct := (HR.out.tr w2 (HKW.out w2 hkr2) k htl).1 hrne
      go_wp2
      clear x0 x1 x2 ct
      go_loopw [34] (fun jv wr => ∃ j : Nat, j ≤ (m.tos[k]).length ∧ jv = .int .i64 j ∧ Lib.IsBuilder 89 5 (w.heap.size + 1) (w.heap.size + 1) (Lib.strCells (rowA m hd ((m.tos[k]).take j))) wr ∧ Kept (fun k => w.heap.size + 1 ≤ k) W0 wr) (fun jv _ => (m.tos[k]).length - (intOf jv).toNat)
      case atStart => exact ⟨0, Nat.zero_le _, rfl, HB2.out, hkr2⟩
      case round =>
        obtain ⟨j, hj, rfl, hib, hkr⟩ := hrel
        have HJB : Hid _ := hib
        clear hib
        obtain ⟨x0, x1, x2⟩ := HBX.out wr hkr
        by_cases hjl : j < (m.tos[k]).length
        · have hji : (j : Int) < ((m.tos[k]).length : Int) := by omega
          have ce := HR.out.te wr (HKW.out wr hkr) k htl j hjl
          have hrg := HF.out.rng _ (List.getElem_mem htl) _ (List.getElem_mem hjl)
          have HSN : Hid (rowA m hd ((m.tos[k]).take (j + 1)) = rowA m hd ((m.tos[k]).take j) ++ sp ++ toName m (m.tos[k])[j]) := by
            rw [Hid, List.take_add_one, List.getElem?_eq_getElem hjl]
            exact rowA_snoc m _ _ _
          have hsz := rowA_size m HF.out.toName ((m.tos[k]).take j) hd
          have hst := HF.out.toName (m.tos[k])[j]
          have htk : ((m.tos[k]).take j).length ≤ 12 := by rw [List.length_take]; omega
          generalize hac : rowA m hd ((m.tos[k]).take j) = ac at *
          obtain ⟨tn, htn⟩ : ∃ tn : Nat, (m.tos[k])[j] = (tn : Int) := ⟨((m.tos[k])[j]).toNat, by omega⟩
          rw [htn] at ce hrg hst HSN
          have htn2 : tn < m.names.length := by omega
          have cn := HR.out.nm wr (HKW.out wr hkr) tn htn2
          have HTN : Hid (toName m (tn : Int) = m.names[tn]) := by rw [Hid, Go.Proofs.YtdbpdanocpfboabGreatDoor.toName, Int.toNat_natCast, getD_at htn2]
          rw [HTN.out] at hst HSN
          generalize hnn : m.names[tn] = nn at *
          have htni : (tn : Int) < (m.names.length : Int) := by omega
          have a1 : ¬ 9223372036854775807 < 1 + nn.size := by omega
          have HS2 : Hid ((⟨#[32]⟩ ++ nn : ByteArray).size ≤ 20) := by
            rw [Hid]
            simp only [size_app]
            show 1 + nn.size ≤ 20
            omega
          clear hrg htn
          go_wp2_with (go_at_call 64; refine (writeString64 (w.heap.size + 1) (w.heap.size + 1) (Lib.strCells ac) _ wr HJB.out (by rw [Lib.strCells_length]; have := HS2.out; omega) (HSZ.out wr hkr)).mono ?_; rintro e w3 ⟨rfl, hb3, k3⟩)
          go_roundw
          case rel =>
            refine ⟨j + 1, by omega, by simp, .inr ?_, HBS.out wr w3 hkr k3⟩
            rw [HSN.out, app_assoc, strCells_app]
            exact hb3
          case measure => simp [intOf]; omega
        · obtain rfl : j = (m.tos[k]).length := by omega
          rw [List.take_length] at HJB
          have hsz := rowA_size m HF.out.toName m.tos[k] hd
          go_wp2_with (go_at_call 66; refine (writeByte66 (w.heap.size + 1) (w.heap.size + 1) (Lib.strCells (rowA m hd m.tos[k])) 10 wr HJB.out (by rw [Lib.strCells_length]; omega) (HSZ.out wr hkr)).mono ?_; rintro e w3 ⟨rfl, hb3, k3⟩)
          go_roundw
          case rel =>
            refine ⟨k + 1, by omega, by simp, .inr ?_, HBS.out wr w3 hkr k3⟩
            rw [HTX.out, ← strCells_nl]
            exact hb3
          case measure => simp [intOf]; omega
    · obtain rfl : k = m.names.length := by omega
      have HNE : Hid ((textM m).data.toList ≠ []) := textM_ne hn0
      go_wp2_with (go_at_call 67; refine (string67 (w.heap.size + 1) (w.heap.size + 1) (textM m).data.toList wr HIB.out HNE.out).mono ?_; rintro e w3 ⟨rfl, k3⟩)
      go_ret
      exact ⟨HKW.out w3 (hkr.trans (Kept.of_below k3) (fun _ _ f => f)), rfl⟩
end Go.Proofs.YtdbpdanocpfboabGreatDoor

/- The program's Good and Print. -/
namespace Go.Proofs.YtdbpdanocpfboabGreatDoor
open Go.RowKit

set_option maxRecDepth 100000 in
set_option maxHeartbeats 1000000 in
theorem good10 (w : World) (B : Nat) (v : Value) (m : MD) (hm : ModV B w v m) (hB : B ≤ w.heap.size) (hsz : ∀ x ∈ m.names, x.size ≤ 9223372036854775807) : Calls Tryz.prog 10 #[v] w fun e w' => Kept (fun _ => False) w w' ∧ e = .returned (.bool (goodM m)) := by
  obtain ⟨nv, lv, tv, rfl, hn, hl, ht⟩ := hm.ex
  obtain ⟨W0, hW0⟩ : ∃ W0, W0 = w.alloc (.cells #[nv, lv, tv] 26) := ⟨_, rfl⟩
  have k0 : Kept (fun _ => False) w W0 := by rw [hW0]; exact (Kept.refl _ _).alloc _
  have b0 : W0.heap[w.heap.size]? = some (.cells #[nv, lv, tv] 26 (0, 0)) := by rw [hW0]; exact alloc_blk _ _
  have HBX : Hid (∀ W, Kept (fun _ => False) W0 W → W.cell? ⟨w.heap.size, 0, none⟩ = some nv ∧ W.cell? ⟨w.heap.size, 1, none⟩ = some lv ∧ W.cell? ⟨w.heap.size, 2, none⟩ = some tv) := fun W hk =>
    ⟨(hk.cell (p := ⟨w.heap.size, 0, none⟩) (lt_of_cell (blk_cell b0 0)) (fun f => f)).trans (blk_cell b0 0), (hk.cell (p := ⟨w.heap.size, 1, none⟩) (lt_of_cell (blk_cell b0 1)) (fun f => f)).trans (blk_cell b0 1), (hk.cell (p := ⟨w.heap.size, 2, none⟩) (lt_of_cell (blk_cell b0 2)) (fun f => f)).trans (blk_cell b0 2)⟩
  have HM : Hid (∀ W, Kept (fun _ => False) W0 W → ModV B W (.agg #[nv, lv, tv]) m) := fun W hk => hm.kept (k0.trans hk (fun _ _ f => f)) hB
  have hB0 : B ≤ W0.heap.size := Nat.le_trans hB k0.size
  have HSZ : Hid (∀ x ∈ m.names, x.size ≤ 9223372036854775807) := hsz
  obtain ⟨x0, x1, x2⟩ := HBX.out W0 (Kept.refl _ _)
  clear hm hn hl ht b0 hsz
  go_enter Tryz.func10, Tryz.ntmps10
  go_upto_region 1 with fail
  rw [← hW0]
  clear hW0
  cases hf : fitsB m with
  | false =>
    have HE : Hid (goodM m = false) := by rw [Hid, goodM, hf]; rfl
    go_wp2_with (go_at_call 34; go_must (refine (sound34 W0 B _ m (HM.out W0 (Kept.refl _ _)) hB0 HSZ.out).mono ?_); rintro e w1 ⟨k1, rfl⟩; rw [hf])
    go_ret
    exact ⟨k0.trans k1 (fun _ _ f => f), ret_bool HE.out.symm⟩
  | true =>
    have HP := (fitsB_iff m).1 hf
    have HE : Hid (goodM m = decide (((textM m).size : Int) - 1 ≤ 1000)) := by rw [Hid, goodM, hf]; rfl
    have hts := textM_size HP
    have HP2 : Hid (FitsP m) := HP
    clear HP
    go_wp2_with (first
      | (go_at_call 34; refine (sound34 W0 B _ m (HM.out W0 (Kept.refl _ _)) hB0 HSZ.out).mono ?_; rintro e w1 ⟨k1, rfl⟩; rw [hf]; clear x0 x1 x2; obtain ⟨x0, x1, x2⟩ := HBX.out w1 k1)
      | (go_at_call 35; refine (text35 w1 B _ m (HM.out w1 k1) HP2.out (Nat.le_trans hB0 k1.size)).mono ?_; rintro e w2 ⟨k2, rfl⟩))
    go_ret
    exact ⟨(k0.trans k1 (fun _ _ f => f)).trans k2 (fun _ _ f => f), ret_bool HE.out.symm⟩

set_option maxRecDepth 100000 in
set_option maxHeartbeats 1000000 in
theorem print11 (w : World) (B : Nat) (v : Value) (m : MD) (hm : ModV B w v m) (hB : B ≤ w.heap.size) (hsz : ∀ x ∈ m.names, x.size ≤ 9223372036854775807) : Calls Tryz.prog 11 #[v] w fun e w' => Kept (fun _ => False) w w' ∧ e = .returned (.string (printM m)) := by
  obtain ⟨nv, lv, tv, rfl, hn, hl, ht⟩ := hm.ex
  obtain ⟨W0, hW0⟩ : ∃ W0, W0 = w.alloc (.cells #[nv, lv, tv] 26) := ⟨_, rfl⟩
  have k0 : Kept (fun _ => False) w W0 := by rw [hW0]; exact (Kept.refl _ _).alloc _
  have b0 : W0.heap[w.heap.size]? = some (.cells #[nv, lv, tv] 26 (0, 0)) := by rw [hW0]; exact alloc_blk _ _
  have HBX : Hid (∀ W, Kept (fun _ => False) W0 W → W.cell? ⟨w.heap.size, 0, none⟩ = some nv ∧ W.cell? ⟨w.heap.size, 1, none⟩ = some lv ∧ W.cell? ⟨w.heap.size, 2, none⟩ = some tv) := fun W hk =>
    ⟨(hk.cell (p := ⟨w.heap.size, 0, none⟩) (lt_of_cell (blk_cell b0 0)) (fun f => f)).trans (blk_cell b0 0), (hk.cell (p := ⟨w.heap.size, 1, none⟩) (lt_of_cell (blk_cell b0 1)) (fun f => f)).trans (blk_cell b0 1), (hk.cell (p := ⟨w.heap.size, 2, none⟩) (lt_of_cell (blk_cell b0 2)) (fun f => f)).trans (blk_cell b0 2)⟩
  have HM : Hid (∀ W, Kept (fun _ => False) W0 W → ModV B W (.agg #[nv, lv, tv]) m) := fun W hk => hm.kept (k0.trans hk (fun _ _ f => f)) hB
  have hB0 : B ≤ W0.heap.size := Nat.le_trans hB k0.size
  have HSZ : Hid (∀ x ∈ m.names, x.size ≤ 9223372036854775807) := hsz
  obtain ⟨x0, x1, x2⟩ := HBX.out W0 (Kept.refl _ _)
  clear hm hn hl ht b0 hsz
  go_enter Tryz.func11, Tryz.ntmps11
  go_upto_region 1 with fail
  rw [← hW0]
  clear hW0
  cases hf : goodM m with
  | false =>
    have HE : Hid (printM m = ⟨#[]⟩) := by rw [Hid, printM, hf]; rfl
    go_wp2_with (go_at_call 10; go_must (refine (good10 W0 B _ m (HM.out W0 (Kept.refl _ _)) hB0 HSZ.out).mono ?_); rintro e w1 ⟨k1, rfl⟩; rw [hf])
    go_ret
    exact ⟨k0.trans k1 (fun _ _ f => f), by rw [HE.out]; rfl⟩
  | true =>
    have HP : Hid (FitsP m) := by
      have : fitsB m = true := by simp only [goodM, Bool.and_eq_true] at hf; exact hf.1
      exact (fitsB_iff m).1 this
    have HE : Hid (printM m = textM m) := by rw [Hid, printM, hf]; rfl
    go_upto_region 3 with (go_at_call 10; go_must (refine (good10 W0 B _ m (HM.out W0 (Kept.refl _ _)) hB0 HSZ.out).mono ?_); rintro e w1 ⟨k1, rfl⟩; rw [hf])
    clear x0 x1 x2
    obtain ⟨x0, x1, x2⟩ := HBX.out w1 k1
    have hB1 := Nat.le_trans hB0 k1.size
    go_wp2_with (go_at_call 35; go_must (refine (text35 w1 B _ m (HM.out w1 k1) HP.out hB1).mono ?_); rintro e w2 ⟨k2, rfl⟩)
    go_ret
    exact ⟨(k0.trans k1 (fun _ _ f => f)).trans k2 (fun _ _ f => f), by rw [HE.out]; rfl⟩
end Go.Proofs.YtdbpdanocpfboabGreatDoor

/- The letters of a list of states: the program's letters. -/
namespace Go.Proofs.YtdbpdanocpfboabGreatDoor
open Go.RowKit

set_option maxRecDepth 100000 in
set_option maxHeartbeats 2000000 in
theorem letters37 (w : World) (B : Nat) (nv lv tv xv : Value) (ls xs : List Int) (hl : IntsV B w lv ls) (hx : IntsV B w xv xs) (hB : B ≤ w.heap.size) (hr : ∀ s ∈ xs, 0 ≤ s ∧ s < (ls.length : Int)) (h20 : xs.length ≤ 20000) :
    Calls Tryz.prog 37 #[.agg #[nv, lv, tv], xv] w fun e w' => ∃ sv, e = .returned sv ∧ w'.ownsRow w.heap.size 3 1 sv xs.length ((xs.map (fun s => ls.getD s.toNat 0)).map (Value.int .i64)) ∧ Kept (fun _ => False) w w' := by
  obtain ⟨la, lc, rfl, hl1⟩ := hl.form
  obtain ⟨xa, xc, rfl, _⟩ := hx.form
  obtain ⟨W0, hW0⟩ : ∃ W0, w.alloc (.cells #[nv, .slice la ls.length lc, tv] 26) = W0 := ⟨_, rfl⟩
  have k0 : Kept (fun _ => False) w W0 := by rw [← hW0]; exact (Kept.refl _ _).alloc _
  have b0 : W0.heap[w.heap.size]? = some (.cells #[nv, .slice la ls.length lc, tv] 26 (0, 0)) := by rw [← hW0]; exact alloc_blk _ _
  have HX : Hid (∀ W, Kept (fun _ => False) W0 W → W.cell? ⟨w.heap.size, 1, none⟩ = some (.slice la ls.length lc) ∧ IntsV B W (.slice la ls.length lc) ls ∧ IntsV B W (.slice xa xs.length xc) xs) := fun W hk =>
    ⟨(hk.cell (p := ⟨w.heap.size, 1, none⟩) (lt_of_cell (blk_cell b0 1)) (fun f => f)).trans (blk_cell b0 1), hl.below ((k0.trans hk (fun _ _ f => f)).below hB (fun _ f => f.elim)), hx.below ((k0.trans hk (fun _ _ f => f)).below hB (fun _ f => f.elim))⟩
  have HK0 : Hid (Kept (fun _ => False) w W0) := k0
  have HRN : Hid (∀ s ∈ xs, 0 ≤ s ∧ s < (ls.length : Int)) := hr
  obtain ⟨i3, hi3, hy0, hy1, hy2⟩ := info_parts info3
  have HS0 : w.heap.size ≤ W0.heap.size := k0.size
  clear hl hx b0 hr k0
  go_enter Tryz.func37, Tryz.ntmps37
  go_wp2
  clear hW0
  go_loopw [5, 10] (fun sv iv wr => ∃ k : Nat, k ≤ xs.length ∧ iv = .int .i64 k ∧ wr.ownsRow W0.heap.size 3 1 sv k (((xs.take k).map (fun s => ls.getD s.toNat 0)).map (Value.int .i64)) ∧ Kept (fun _ => False) W0 wr) (fun _ iv _ => xs.length - (intOf iv).toNat)
  case atStart => exact ⟨0, Nat.zero_le _, rfl, ⟨rfl, .inl ⟨rfl, rfl⟩⟩, Kept.refl _ _⟩
  case round =>
    obtain ⟨k, hk, rfl, hown, hkr⟩ := hrel
    by_cases hlt : k < xs.length
    · have hki : (k : Int) < (xs.length : Int) := by omega
      obtain ⟨c1, hl, hx⟩ := HX.out wr hkr
      obtain ⟨xb, xo, rfl, _, cx⟩ := hx.ls.cell (i := k) (x := .int .i64 xs[k]) (by simp [hlt])
      have hrg := HRN.out _ (List.getElem_mem hlt)
      have HT : Hid ((xs.take (k + 1)).map (fun s => ls.getD s.toNat 0) = (xs.take k).map (fun s => ls.getD s.toNat 0) ++ [ls.getD (xs[k]).toNat 0]) := by rw [Hid, take_step hlt, List.map_append]; rfl
      obtain ⟨t, ht⟩ : ∃ t : Nat, xs[k] = (t : Int) := ⟨(xs[k]).toNat, by omega⟩
      rw [ht] at cx hrg HT
      have htl : t < ls.length := by omega
      have htli : (t : Int) < (ls.length : Int) := by omega
      obtain ⟨lb, lo, rfl, _, cl⟩ := hl.ls.cell (i := t) (x := .int .i64 ls[t]) (by simp [htl])
      rw [Int.toNat_natCast, getD_at htl] at HT
      generalize ls[t] = y at *
      have hz := hkr.size
      have HOW : Hid _ := hown
      clear hl hx ht hrg
      go_wp2_with (at_builtin; go_must (refine wpList_append_own _ rfl _ _ 23 rfl W0.heap.size 3 i3 _ 1 8 Tryz.underlying23 hi3 hy0 hy1 hy2 rfl (by decide) _ k _ rfl (World.ownsRow.alloc HOW.out _) ⟨wr.heap.size, 0, none⟩ 1 1 [.int .i64 y] rfl rfl (cell_one_new _ _ _) (by intro y hy; simp at hy; subst hy; rfl) (by unfold maxLen; omega) (by omega) (by simp; omega) ?_); intro v' w' hown' hgrow hnil; clear hnil)
      go_roundw
      case rel =>
        refine ⟨k + 1, by omega, by simp, ?_, (hkr.alloc _).grown hgrow (fun b hb e => ?_)⟩
        · rw [HT.out]
          simpa using hown'
        · have := (ownsRow_lt hown e).2
          omega
      case measure => simp [intOf]; omega
    · obtain rfl : k = xs.length := by omega
      go_wp2
      go_ret
      rw [List.take_length] at hown
      exact ⟨_, rfl, ownsRow_base hown HS0, HK0.out.trans hkr (fun _ _ f => f)⟩
end Go.Proofs.YtdbpdanocpfboabGreatDoor
