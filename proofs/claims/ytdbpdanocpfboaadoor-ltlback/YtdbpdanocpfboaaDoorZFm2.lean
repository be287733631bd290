import Derived.Test.YtdbpdanocpfboaaDoorZFm1
import Derived.Deep.LoopGhost
/- Walks of package nodes: Form. -/
namespace Go.Proofs.YtdbpdanocpfboaaDoor
open Go.RowKit

theorem info151 : (Tryd.prog.info? 151).map (fun i => (i.zero, i.size, i.bytes)) = some (some (.agg #[.int .i64 0, .pointer none]), 2, 16) := by kernel_rfl
theorem own_cap {w : World} {base g n c : Nat} {e : TypeId} {size : Nat} {xs : List Value} (h : w.ownsRow base e size (.slice (some ⟨g, 0, none⟩) n c) n xs) : n ≤ c := by
  rcases h.2 with ⟨e, _⟩ | ⟨g', cap, cur, e, _, _, hc, _⟩
  · cases e
  · cases e
    exact hc
theorem sumT_len : ∀ (l : List Tk), l.length ≤ sumT l
  | [] => by simp
  | k :: r => by
    have h1 := sumT_len r
    have h2 := k.t.size_pos
    simp only [sumT, List.map_cons, List.sum_cons, List.length_cons] at *
    omega
theorem mkNd_op (o n : Int) (ids : List Int) : (mkNd o n ids).op = o := by
  match ids with
  | [] => rfl
  | [_] => rfl
  | _ :: _ :: _ => rfl
theorem mkNd_n {ns : List Nd} {o n : Int} {ids : List Int} {ks : List Tr} (hw : (Tr.mk o n ks).well) (hd : Dens ns ids ks) : (mkNd o n ids).n = n := by
  have hl := hd.length
  have h0 : ids ≠ [] → n = 0 := fun hne => by
    obtain ⟨a1, a2, a3, a4, a5⟩ := hw.1
    have : 0 < ids.length := List.length_pos_iff.2 hne
    have hne2 : o ≠ 2 := by
      rintro rfl
      have k2 : kidC 2 = 0 := rfl
      omega
    simp [topN, hne2] at a5
    omega
  match ids, h0 with
  | [], _ => rfl
  | [_], h0 => exact (h0 (by simp)).symm
  | _ :: _ :: _, h0 => exact (h0 (by simp)).symm
theorem cell_al {W : World} {p : Addr} {v : Value} (h : W.cell? p = some v) (o : Obj) : (W.alloc o).cell? p = some v :=
  (((Kept.refl (fun _ => False) W).alloc o).cell (lt_of_cell h) (fun f => f)).trans h
theorem FM.push {ns : List Nd} {w0 : World} {F : Nat → Nat → Tr → Prop} {holes st : List Tk} {sv : Value} {W W' : World} (h : FM ns w0 F holes st sv W) {sv' : Value} {k : Tk} (hk : k ∈ holes) (hr : W'.ownsRow w0.heap.size 151 2 sv' (st.length + 1) (flatK st.reverse ++ k.cells)) (hgr : W.grownBy W' sv.ownBlock)
    (hloc : sv'.ownBlock = sv.ownBlock ∨ sv'.ownBlock = some W.heap.size) : FM ns w0 F holes (k :: st) sv' W' := by
  have hk1 : Kept (fun k => some k = sv.ownBlock) W W' := (Kept.refl _ _).grown hgr (fun k _ e => e)
  refine h.mono (h.kept.trans hk1 (fun x hx e => by have := (ownsRow_lt h.own e).2; omega)) ?_ (fun x hx => ?_) (fun b o t hF => ?_)
  · rw [List.reverse_cons, flatK_append]
    exact hr
  · rcases List.mem_cons.1 hx with rfl | hx
    · exact hk
    · exact h.sub x hx
  · obtain ⟨a1, a2, a3, a4, a5, a6⟩ := h.slot b o t hF
    have hl := plain_lt a2
    refine ⟨a2.of_block (hk1.block b hl a3), fun e => ?_, fun i _ => hk1.cell (p := ⟨b, o + i, none⟩) hl a3⟩
    rcases hloc with e' | e'
    · exact a3 (e.trans e')
    · rw [e'] at e
      have := Option.some.inj e
      omega
theorem FM.perm {ns : List Nd} {w0 : World} {F : Nat → Nat → Tr → Prop} {a b : List Tk} {sv : Value} {W : World} {st : List Tk} (h : FM ns w0 F (a ++ b) st sv W) : FM ns w0 F (a.reverse ++ b) st sv W :=
  { kept := h.kept, own := h.own, fn := h.fn
    sub := fun k hk => by have := h.sub k hk; simpa using this
    hole := fun k hk => h.hole k (by simpa using hk)
    nd := by
      have := h.nd
      rw [List.map_append, List.nodup_append] at this ⊢
      refine ⟨?_, this.2.1, fun x hx y hy => this.2.2 x (by simpa using hx) y hy⟩
      rw [List.map_reverse]
      exact List.pairwise_reverse.2 (this.1.imp (fun h => Ne.symm h))
    slot := fun b' o t hF => by
      obtain ⟨a1, a2, a3, a4, a5, a6⟩ := h.slot b' o t hF
      refine ⟨a1, a2, a3, a4, a5, a6.imp (fun ⟨k, hk, r⟩ => ⟨k, by simpa using hk, r⟩) id⟩ }
theorem two_cells (w : World) (a b : Value) (t : TypeId) : ∀ j u, [a, b][j]? = some u → (w.alloc (.cells #[a, b] t)).cell? ((⟨w.heap.size, 0, none⟩ : Addr).add j) = some u := by
  intro j u h
  match j, h with
  | 0, h => simp at h; subst h; simp [Addr.add]
  | 1, h => simp at h; subst h; simp [Addr.add]
theorem made3 (n : Nat) : ∀ i, i < n → (madeCells #[.int .i64 0, .int .i64 0, .slice none 0 0] (n * 3))[3 * i]? = some (.int .i64 0) ∧ (madeCells #[.int .i64 0, .int .i64 0, .slice none 0 0] (n * 3))[3 * i + 1]? = some (.int .i64 0) ∧ (madeCells #[.int .i64 0, .int .i64 0, .slice none 0 0] (n * 3))[3 * i + 2]? = some (.slice none 0 0) := by
  intro i hi
  have e0 : 3 * i % 3 = 0 := by omega
  have e1 : (3 * i + 1) % 3 = 1 := by omega
  have e2 : (3 * i + 2) % 3 = 2 := by omega
  refine ⟨?_, ?_, ?_⟩
  · simp [madeCells, show 3 * i < n * 3 by omega, e0]
  · simp [madeCells, show 3 * i + 1 < n * 3 by omega, e1]
  · simp [madeCells, show 3 * i + 2 < n * 3 by omega, e2]
theorem sumT_kids (kb : Nat) : ∀ (ids : List Int) (ks : List Tr) (o : Nat), ids.length = ks.length → sumT (kidTk kb ids ks o) = Tr.sizes ks
  | [], [], _, _ => rfl
  | i :: r, t :: s, o, h => by
    have := sumT_kids kb r s (o + 3) (by simpa using h)
    simp only [sumT, kidTk, List.map_cons, List.sum_cons, Tr.sizes] at *
    omega
theorem push2 {α : Type} (h : Array α) (a b : α) : ((h.push a).push b)[h.size]? = some a ∧ ((h.push a).push b)[h.size + 1]? = some b := by
  refine ⟨?_, ?_⟩
  · rw [Array.getElem?_push, if_neg (by simp only [Array.size_push]; omega), Array.getElem?_push, if_pos rfl]
  · rw [Array.getElem?_push, if_pos (by simp only [Array.size_push])]
set_option maxRecDepth 100000 in
set_option maxHeartbeats 4000000 in
theorem form54 (w : World) (L : Nat) (ns : List Nd) (i : Int) (t : Tr) (hR : LRead w L ns) (ho : Ord ns) (hd : Den ns i t) (ht : t.well) (hsz : t.size ≤ 67108864) :
    Calls Tryd.prog 54 #[.pointer (some ⟨L, 0, none⟩), .int .i64 i] w fun e w' => ∃ v, e = .returned v ∧ Kept (fun _ => False) w w' ∧ FVS (fun b => w.heap.size ≤ b ∧ b < w'.heap.size) w' v t := by
  have HR : Hid (LRead w L ns) := hR
  have HO : Hid (Ord ns) := ho
  have HD : Hid (Den ns i t) := hd
  have HT : Hid (t.well) := ht
  clear hR ho hd ht
  go_enter Tryd.func54, Tryd.ntmps54
  go_upto_region 1 with fail
  obtain ⟨w1, hw1⟩ : ∃ w1, w1 = w.alloc (.cells #[.int .i64 0, .int .i64 0, .slice none 0 0] 24) := ⟨_, rfl⟩
  have k1 : Kept (fun _ => False) w w1 := by rw [hw1]; exact (Kept.refl _ _).alloc _
  have hr4 : Wb3 w1 w.heap.size (.int .i64 0) (.int .i64 0) (.slice none 0 0) := by rw [hw1]; exact Wb3.new _ _ _ _ _
  rw [← hw1]
  clear hw1
  have hr4w : w.heap.size = w.heap.size := rfl
  generalize hr4e : w.heap.size = r4 at hr4 hr4w ⊢
  have HR4 : Hid (w.heap.size ≤ r4) := by rw [Hid, hr4e]; exact Nat.le_refl _
  clear hr4w hr4e
  go_upto_region 2 with fail
  go_wp2_with fail
  obtain ⟨W0, hW0⟩ : ∃ W0, W0 = (w1.alloc (.cells #[.int .i64 0, .int .i64 0, .slice none 0 0] 24)).alloc (.cells #[.int .i64 i, .pointer (some ⟨w1.heap.size, 0, none⟩)] 151) := ⟨_, rfl⟩
  have k01 : Kept (fun _ => False) w1 W0 := by rw [hW0]; exact ((Kept.refl _ _).alloc _).alloc _
  have hh : W0.heap = (w1.heap.push (.cells #[.int .i64 0, .int .i64 0, .slice none 0 0] 24)).push (.cells #[.int .i64 i, .pointer (some ⟨w1.heap.size, 0, none⟩)] 151) := by rw [hW0]; rfl
  have g0 : W0.heap[w1.heap.size]? = some (.cells #[.int .i64 0, .int .i64 0, .slice none 0 0] 24 (0, 0)) := by rw [hh]; exact (push2 _ _ _).1
  have g1 : W0.heap[w1.heap.size + 1]? = some (.cells #[.int .i64 i, .pointer (some ⟨w1.heap.size, 0, none⟩)] 151 (0, 0)) := by rw [hh]; exact (push2 _ _ _).2
  rw [← hW0]
  clear hW0 hh
  have HFM : Hid (FM ns w1 (fun b o u => b = w1.heap.size ∧ o = 0 ∧ u = t) [⟨i, w1.heap.size, 0, t⟩] [⟨i, w1.heap.size, 0, t⟩] (.slice (some ⟨w1.heap.size + 1, 0, none⟩) 1 1) W0) :=
    { kept := k01
      own := ⟨rfl, .inr ⟨w1.heap.size + 1, 1, _, rfl, by omega, g1, Nat.le_refl 1, by unfold maxLen; omega, rfl, rfl⟩⟩
      sub := fun k hk => hk
      hole := fun k hk => by
        obtain rfl := List.mem_singleton.1 hk
        exact ⟨HD.out, HT.out, ⟨rfl, rfl, rfl⟩, by simp [World.cell?, g0]⟩
      nd := by simp
      slot := by
        rintro b o u ⟨rfl, rfl, rfl⟩
        refine ⟨Nat.le_refl _, ⟨_, _, g0⟩, by simp [Value.ownBlock], rfl, fun j hj => ?_, .inl ⟨⟨i, w1.heap.size, 0, _⟩, by simp, rfl, rfl, rfl⟩⟩
        obtain rfl | rfl | rfl : j = 0 ∨ j = 1 ∨ j = 2 := by omega
        all_goals simp [World.cell?, g0]
      fn := by
        rintro b o u u' ⟨_, _, rfl⟩ ⟨_, _, rfl⟩
        rfl }
  clear g0 g1
  go_loopg [6, 7, 8, 9, 10, 11] t.size (fun k sv _ _ _ _ _ wr => ∃ (F : Nat → Nat → Tr → Prop) (st : List Tk), FM ns w1 F st st sv wr ∧ F w1.heap.size 0 t ∧ sumT st = k ∧ k ≤ t.size)
  case atStart => exact ⟨_, _, HFM.out, ⟨rfl, rfl, rfl⟩, by simp [sumT], Nat.le_refl _⟩
  case round =>
    obtain ⟨F, st, hfm, hFr, hsum, hle⟩ := hrel
    cases st with
    | nil => as_aux_lemma =>
      obtain ⟨sa, sc, rfl⟩ : ∃ sa sc, u6 = .slice sa 0 sc := by
        rcases hfm.own.2 with ⟨e, _⟩ | ⟨g', cap, cur, e, _⟩
        · exact ⟨_, _, e⟩
        · exact ⟨_, _, e⟩
      have hfs := hfm.fin t.size t w1.heap.size 0 (Nat.le_refl _) hFr
      obtain ⟨o, nn, ks⟩ := t
      obtain ⟨_, _, c0, c1, ka, kb, ko, kc, c2, hka, hkk⟩ := hfs
      have hr4' := hr4.kept hfm.kept
      obtain ⟨hr0, ⟨b0, b1, b2⟩, g0, g1, g2⟩ := hr4'
      have hlt4 : r4 < w1.heap.size := hr4.1
      have HKK : Hid (FsS (fun b => w1.heap.size ≤ b ∧ b < wr.heap.size) wr kb ko ks) := hkk
      have HKA : Hid (0 < ks.length → ka = some ⟨kb, ko, none⟩) := hka
      have HK : Hid (Kept (fun _ => False) w1 wr) := hfm.kept
      clear hfm hFr hkk hka HFM hsum
      rw [Nat.zero_add] at c1 c2
      go_wp2
      refine bodyPost_ret (v := .agg #[.int .i64 o, .int .i64 nn, .slice ka ks.length kc]) (by simp [results, Tryd.results54, go_sem, b0, b1, b2]) rfl ⟨_, rfl, ?_, ka, kb, ko, kc, rfl, HKA.out, ?_⟩
      · exact kept3 (k1.trans HK.out (fun _ _ f => f)) HR4.out _ _ _
      · refine FsS.keep (fun b hb => ⟨Nat.le_trans k1.size hb.1, by simpa [World.setCell] using hb.2⟩) (fun b hb => ?_) HKK.out
        have hne : b ≠ r4 := by omega
        rw [Below.heap_setCell _ _ _ _ hne, Below.heap_setCell _ _ _ _ hne, Below.heap_setCell _ _ _ _ hne]
    | cons k st =>
      obtain ⟨g, cp, rfl⟩ := ownsRow_form (n := st.length) hfm.own
      have HF : Hid (FM ns w1 F (k :: st) st (.slice (some ⟨g, 0, none⟩) st.length cp) wr) := hfm.pop
      obtain ⟨q0, q1⟩ := hfm.top
      have HFR : Hid (F w1.heap.size 0 t) := hFr
      have HSUM : Hid (sumT (k :: st) = gk) := hsum
      have hstl : st.length + 1 ≤ 67108864 := by
        have := sumT_len (k :: st)
        simp only [List.length_cons] at this
        omega
      have hcp : st.length ≤ cp := own_cap HF.out.own
      have hck := hfm.hole k (by simp)
      have hkbw : k.b < wr.heap.size := plain_lt (hfm.slot _ _ _ hck.2.2.1).2.1
      have hgw : g < wr.heap.size := (ownsRow_lt hfm.own rfl).1
      have hgk : g ≠ k.b := fun e => (hfm.slot _ _ _ hck.2.2.1).2.2.1 (by rw [← e]; rfl)
      clear hfm hsum HFM hFr
      go_upto_region 6 with fail
      obtain ⟨W1, hW1⟩ : ∃ W1, W1 = wr.alloc (.cells #[.int .i64 k.i, .pointer (some ⟨k.b, k.o, none⟩)] 151) := ⟨_, rfl⟩
      have kW1 : Kept (fun _ => False) wr W1 := by rw [hW1]; exact (Kept.refl _ _).alloc _
      have s0 : W1.cell? ⟨wr.heap.size, 0, none⟩ = some (.int .i64 k.i) := by rw [hW1]; simp
      have s1 : W1.cell? ⟨wr.heap.size, 1, none⟩ = some (.pointer (some ⟨k.b, k.o, none⟩)) := by rw [hW1]; simp
      rw [← hW1]
      clear hW1 q0 q1
      have HF1 : Hid (FM ns w1 F (k :: st) st (.slice (some ⟨g, 0, none⟩) st.length cp) W1) := HF.out.keep kW1
      clear HF
      obtain ⟨hkd, hkw, hkF, _⟩ := hck
      obtain ⟨ki, kb, ko, kt⟩ := k
      simp only at *
      obtain ⟨j, rfl⟩ : ∃ j : Nat, ki = (j : Int) := ⟨ki.toNat, by have := hkd.lt; omega⟩
      obtain ⟨o, nn, ks⟩ := kt
      obtain ⟨ids, hx, hks, hkl, hik⟩ := den_node HO.out hkd hkw
      have hjn : j < ns.length := (List.getElem?_eq_some_iff.1 hx).1
      have hjni : (j : Int) < (ns.length : Int) := by omega
      obtain ⟨ra, rc, r0, rlen, r3⟩ := HR.out.kept (k1.trans HF1.out.kept (fun _ _ f => f))
      obtain ⟨rg, rfl, n0, n1, n2, n3⟩ := r3 j _ hx
      have hmn : (mkNd o nn ids).n = nn := mkNd_n hkw hks
      rw [hmn] at n1
      have HKW : Hid ((Tr.mk o nn ks).well) := hkw
      have HKS : Hid (Dens ns ids ks) := hks
      have HKL : Hid (kidsL (mkNd o nn ids) = ids) := hkl
      have hmo : (mkNd o nn ids).op = o := mkNd_op o nn ids
      rw [hmo] at n0
      have hi2 : ids.length ≤ 2 := by
        have h1 := hks.length
        have h2 := hkw.1.2.2.1
        have h3 := kidC_le2 hkw.1.1 hkw.1.2.1
        omega
      have hv : (mkNd o nn ids).v = .agg #[.int .i64 o, .int .i64 nn, .int .i64 (mkNd o nn ids).l, .int .i64 (mkNd o nn ids).r] := by rw [Nd.v, ndV, hmn, hmo]
      generalize (mkNd o nn ids).l = xl at *
      generalize (mkNd o nn ids).r = xr at *
      have HV : Hid _ := hv
      clear r3 hx hmn hmo hkd hik hkl hks hkw hkF hv
      have s0' := cell_al s0
      have r0' := cell_al r0
      have n0' := cell_al n0
      have n1' := cell_al n1
      have n2' := cell_al n2
      have n3' := cell_al n3
      go_region
      obtain ⟨W2, hW2⟩ : ∃ W2, W2 = (W1.alloc (.cells #[.int .i64 o, .int .i64 nn, .int .i64 xl, .int .i64 xr] 102)).drew := ⟨_, rfl⟩
      have kW2 : Kept (fun _ => False) W1 W2 := by rw [hW2]; exact ((Kept.refl _ _).alloc _).drew
      have x0 : W2.cell? ⟨W1.heap.size, 0, none⟩ = some (.int .i64 o) := by rw [hW2]; simp
      have x1 : W2.cell? ⟨W1.heap.size, 1, none⟩ = some (.int .i64 nn) := by rw [hW2]; simp
      have x2 : W2.cell? ⟨W1.heap.size, 2, none⟩ = some (.int .i64 xl) := by rw [hW2]; simp
      have x3 : W2.cell? ⟨W1.heap.size, 3, none⟩ = some (.int .i64 xr) := by rw [hW2]; simp
      rw [← hW2]
      clear hW2 s0' r0' n0' n1' n2' n3' n0 n1 n2 n3 r0
      have s02 := (kW2.cell (p := ⟨wr.heap.size, 0, none⟩) (lt_of_cell s0) (fun f => f)).trans s0
      have s12 := (kW2.cell (p := ⟨wr.heap.size, 1, none⟩) (lt_of_cell s1) (fun f => f)).trans s1
      have hF2 := HF1.out.keep kW2
      have HF2 : Hid (FM ns w1 F (⟨j, kb, ko, .mk o nn ks⟩ :: st) st (.slice (some ⟨g, 0, none⟩) st.length cp) W2) := hF2
      obtain ⟨_, _, hkF, hk2⟩ := hF2.hole ⟨j, kb, ko, .mk o nn ks⟩ (by simp)
      obtain ⟨f1, f2, f3, f4, f5, _⟩ := hF2.slot _ _ _ hkF
      obtain ⟨u0, hu0⟩ := Option.isSome_iff_exists.1 (f5 0 (by omega))
      obtain ⟨u1, hu1⟩ := Option.isSome_iff_exists.1 (f5 1 (by omega))
      rw [Nat.add_zero] at hu0
      have fz0 := plain_frozen f2 ko
      have fz1 := plain_frozen f2 (ko + 1)
      have hlb : kb < W2.heap.size := plain_lt f2
      have hnb : kb ≠ wr.heap.size := by omega
      have hnc : kb ≠ W1.heap.size := by have := kW1.size; omega
      clear s0 s1 hF2 hkF f1 f2 f3 f4 f5 hk2 HF1
      go_upto_region 7 with fail
      go_region
      obtain ⟨W3, hW3⟩ : ∃ W3, W3 = ((W2.setCell ⟨kb, ko, none⟩ (.int .i64 o)).setCell ⟨kb, ko + 1, none⟩ (.int .i64 nn)).drew := ⟨_, rfl⟩
      have HF3 : Hid (FM ns w1 F (⟨j, kb, ko, .mk o nn ks⟩ :: st) st (.slice (some ⟨g, 0, none⟩) st.length cp) W3) := by
        have h1 := HF2.out.head (k := ⟨j, kb, ko, .mk o nn ks⟩) (by simp) (j := 0) (by omega) (.int .i64 o)
        have h2 := h1.head (k := ⟨j, kb, ko, .mk o nn ks⟩) (by simp) (j := 1) (by omega) (.int .i64 nn)
        rw [hW3]
        exact h2.keep (Kept.refl _ _).drew
      have kW3 : Kept (fun k => k = kb) W2 W3 := by
        rw [hW3]
        exact (((Kept.refl (fun k => k = kb) W2).setCell (p := ⟨kb, ko, none⟩) (fun _ => rfl) _).setCell (p := ⟨kb, ko + 1, none⟩) (fun _ => rfl) _).drew
      have y0 : W3.cell? ⟨kb, ko, none⟩ = some (.int .i64 o) := by rw [hW3]; simp [go_sem, hu0]
      have y1 : W3.cell? ⟨kb, ko + 1, none⟩ = some (.int .i64 nn) := by rw [hW3]; simp [go_sem, hu1]
      rw [← hW3]
      clear hW3 hu0 hu1 fz0 fz1 HF2
      have x03 := (kW3.cell (p := ⟨W1.heap.size, 0, none⟩) (lt_of_cell x0) (Ne.symm hnc)).trans x0
      have x13 := (kW3.cell (p := ⟨W1.heap.size, 1, none⟩) (lt_of_cell x1) (Ne.symm hnc)).trans x1
      have x23 := (kW3.cell (p := ⟨W1.heap.size, 2, none⟩) (lt_of_cell x2) (Ne.symm hnc)).trans x2
      have x33 := (kW3.cell (p := ⟨W1.heap.size, 3, none⟩) (lt_of_cell x3) (Ne.symm hnc)).trans x3
      have s13 := (kW3.cell (p := ⟨wr.heap.size, 1, none⟩) (lt_of_cell s12) (Ne.symm hnb)).trans s12
      clear x0 x1 x2 x3 s02 s12
      have hbs : wr.heap.size < W3.heap.size := lt_of_cell s13
      go_upto_region 9 with (go_at_call 63; rw [← HV.out]; refine (kids63 _ (mkNd o nn ids)).mono ?_; rintro e w4 ⟨ka, kc, rfl, hkv, hk4⟩; rw [HKL.out] at hkv ⊢)
      have HF4 : Hid (FM ns w1 F (⟨j, kb, ko, .mk o nn ks⟩ :: st) st (.slice (some ⟨g, 0, none⟩) st.length cp) w4) := HF3.out.keep hk4
      have y04 := (hk4.cell (p := ⟨kb, ko, none⟩) (lt_of_cell y0) (fun f => f)).trans y0
      have y14 := (hk4.cell (p := ⟨kb, ko + 1, none⟩) (lt_of_cell y1) (fun f => f)).trans y1
      have s14 := (hk4.cell (p := ⟨wr.heap.size, 1, none⟩) (lt_of_cell s13) (fun f => f)).trans s13
      have HKV : Hid (NewInts W3 w4 ka ids) := hkv
      have hlen := HKS.out.length
      have HLEN : Hid (ids.length = ks.length) := hlen
      have hkb4 : kb < w4.heap.size := lt_of_cell y04
      have h34 := hk4.size
      clear hkv y0 y1 x03 x13 x23 x33 s13 HF3 hlen hk4
      have HY : Hid (w4.cell? ⟨kb, ko, none⟩ = some (.int .i64 o) ∧ w4.cell? ⟨kb, ko + 1, none⟩ = some (.int .i64 nn)) := ⟨y04, y14⟩
      clear y04 y14
      by_cases hz : ids.length = 0
      · as_aux_lemma =>
          have hks0 : ks = [] := List.length_eq_zero_iff.1 (by have := HLEN.out; omega)
          have hid0 : ids = [] := List.length_eq_zero_iff.1 hz
          subst hks0 hid0
          have HF5 : Hid (FM ns w1 F st st (.slice (some ⟨g, 0, none⟩) st.length cp) w4) := HF4.out.leaf (fun x hx => hx) rfl HY.out.1 HY.out.2
          clear HF4 HY
          simp only [List.length_nil]
          go_wp2_with fail
          go_loopw [6, 10, 11, 63] (fun sv _ _ i wq => i = .int .i64 0 ∧ FM ns w1 F st st sv wq) (fun _ _ _ _ _ => 0)
          case atStart => exact ⟨rfl, HF5.out⟩
          case round =>
            obtain ⟨rfl, hf⟩ := hrel
            have HF6 : Hid (FM ns w1 F st st _ _) := hf
            clear hf
            go_wp2
            go_roundg (sumT st)
            case measure =>
              have := HSUM.out
              simp only [sumT, List.map_cons, List.sum_cons, Tr.size] at this ⊢
              omega
            case rel =>
              refine ⟨F, st, HF6.out, HFR.out, rfl, ?_⟩
              have := HSUM.out
              simp only [sumT, List.map_cons, List.sum_cons, Tr.size] at this ⊢
              omega
      · as_aux_lemma =>
          obtain ⟨i0, hi, hz0, hz1, hz2⟩ := info_parts info24
          have hmk : ∀ u : World, (Instr.makeSlice 22 (.int .i64 (ids.length : Int)) (.int .i64 (ids.length : Int))).run Tryd.prog u = .ok (.slice (some ⟨u.heap.size, 0, none⟩) ids.length ids.length) (u.alloc (.cells (madeCells #[.int .i64 0, .int .i64 0, .slice none 0 0] (ids.length * 3)) 24)) := fun u => by
            have hh := run_make (P := Tryd.prog) u 22 24 i0 (.agg #[.int .i64 0, .int .i64 0, .slice none 0 0]) Tryd.underlying22 hi hz0 .i64 .i64 (ids.length : Int) (ids.length : Int) (by omega) (Int.le_refl _) (by rw [hz2]; omega) (by omega)
            simpa [hz1, Value.cells] using hh
          clear hi hz0 hz1 hz2
          have hck4 := (HF4.out.hole ⟨j, kb, ko, .mk o nn ks⟩ (by simp)).2.2
          have hz4 := hck4.2
          simp only at hz4
          have hfz4 := plain_frozen (HF4.out.slot _ _ _ hck4.1).2.1 (ko + 2)
          have hz4' := cell_al hz4
          have hfz4' : ∀ o, (w4.alloc o).frozen? ⟨kb, ko + 2, none⟩ = false := fun o => (((Kept.refl (fun _ => False) w4).alloc o).frozen (p := ⟨kb, ko + 2, none⟩) hkb4 (fun f => f)).trans hfz4
          have s14' := cell_al s14
          have hpos : 0 < ids.length := by omega
          clear hck4
          go_upto_region 10 with fail
          go_region
          obtain ⟨W5, hW5⟩ : ∃ W5, W5 = ((w4.setCell ⟨kb, ko + 2, none⟩ (.slice (some ⟨w4.heap.size, 0, none⟩) ids.length ids.length)).alloc (.cells (madeCells #[.int .i64 0, .int .i64 0, .slice none 0 0] (ids.length * 3)) 24)).drew := ⟨_, rfl⟩
          obtain ⟨F5, HF5, HFR5⟩ : ∃ F5, Hid (FM ns w1 F5 (kidTk w4.heap.size ids ks 0 ++ st) st (.slice (some ⟨g, 0, none⟩) st.length cp) W5) ∧ Hid (F5 w1.heap.size 0 t) := by
            have h1 := HF4.out.node (fun x hx => hx) (ids := ids) rfl HKS.out HY.out.1 HY.out.2 (cs := madeCells #[.int .i64 0, .int .i64 0, .slice none 0 0] (ids.length * 3)) (fun i hi => made3 ids.length i (by have := HLEN.out; omega)) ids.length ids.length HLEN.out
            rw [World.setCell_alloc_past _ _ _ _ hkb4] at h1
            have HFRx : Hid (F w1.heap.size 0 t ∨ (w1.heap.size = w4.heap.size ∧ ∃ i, 0 = 3 * i ∧ ks[i]? = some t)) := Or.inl HFR.out
            refine ⟨fun b o u => F b o u ∨ (b = w4.heap.size ∧ ∃ i, o = 3 * i ∧ ks[i]? = some u), ?_, HFRx⟩
            rw [hW5]
            exact h1.keep (Kept.refl _ _).drew
          have kW5 : Kept (fun k => k = kb) w4 W5 := by
            rw [hW5]
            exact (((Kept.refl (fun k => k = kb) w4).setCell (p := ⟨kb, ko + 2, none⟩) (fun _ => rfl) _).alloc _).drew
          have z5 : W5.cell? ⟨kb, ko + 2, none⟩ = some (.slice (some ⟨w4.heap.size, 0, none⟩) ids.length ids.length) := by
            have h0 : (w4.setCell ⟨kb, ko + 2, none⟩ (.slice (some ⟨w4.heap.size, 0, none⟩) ids.length ids.length)).cell? ⟨kb, ko + 2, none⟩ = some (.slice (some ⟨w4.heap.size, 0, none⟩) ids.length ids.length) := World.cell?_setCell_same' _ _ _ (by rw [hz4]; rfl)
            rw [hW5]
            exact cell_al h0 _
          have s15 := (kW5.cell (p := ⟨wr.heap.size, 1, none⟩) (lt_of_cell s14) (Ne.symm hnb)).trans s14
          have HKV5 : Hid (∀ (m : Nat) (x : Int), ids[m]? = some x → ∃ b, ka = some ⟨b, 0, none⟩ ∧ W3.heap.size ≤ b ∧ W5.cell? ⟨b, m, none⟩ = some (.int .i64 x)) := fun m x hx => by
            obtain ⟨b, e, hb, hc⟩ := HKV.out m x hx
            exact ⟨b, e, hb, (kW5.cell (p := ⟨b, m, none⟩) (lt_of_cell hc) (by simp only; omega)).trans hc⟩
          rw [← hW5]
          clear hW5 hmk hz4 hz4' hfz4 hfz4' s14 s14' HF4 HKV HY
          generalize w4.heap.size = nb at *
          have HKT : Hid ((kidTk nb ids ks 0).length = ids.length) := kidTk_length _ _ _ _ HLEN.out
          have HKG : Hid (∀ (m : Nat) (x : Int) (u : Tr), ids[m]? = some x → ks[m]? = some u → (kidTk nb ids ks 0)[m]? = some ⟨x, nb, 3 * m, u⟩) := fun m x u h1 h2 => by
            have := kidTk_get nb ids ks 0 m x u h1 h2
            rwa [Nat.zero_add] at this
          have HKSZ : Hid (sumT (kidTk nb ids ks 0) = Tr.sizes ks) := sumT_kids nb ids ks 0 HLEN.out
          generalize kidTk nb ids ks 0 = KT at *
          generalize wr.heap.size = bS at *
          go_wp2_with fail
          go_loopw [6, 10, 11, 63] (fun sv _ _ i wq => ∃ m : Nat, m ≤ ids.length ∧ i = .int .i64 m ∧ FM ns w1 F5 (KT ++ st) ((KT.take m).reverse ++ st) sv wq ∧ Kept (fun k => k = g) W5 wq ∧ ∀ k, some k = sv.ownBlock → k = g ∨ W5.heap.size ≤ k) (fun _ _ _ i _ => ids.length - (intOf i).toNat)
          case atStart => exact ⟨0, Nat.zero_le _, rfl, by simpa using HF5.out, Kept.refl _ _, fun k hk => .inl (Option.some.inj hk)⟩
          case round =>
            obtain ⟨m, hm, rfl, hfm, hkq, hoq⟩ := hrel
            by_cases hmt : m < ids.length
            · obtain ⟨tm, htm, _⟩ := HKS.out.get (List.getElem?_eq_getElem hmt)
              have hkt := HKG.out m _ _ (List.getElem?_eq_getElem hmt) htm
              rw [Nat.mul_comm 3 m] at hkt
              obtain ⟨ib, rfl, hib, hic⟩ := HKV5.out m _ (List.getElem?_eq_getElem hmt)
              have HKTM : Hid (KT[m]? = some ⟨ids[m], nb, m * 3, tm⟩) := hkt
              have hic' := (hkq.cell (p := ⟨ib, m, none⟩) (lt_of_cell hic) (by simp only; omega)).trans hic
              have z5' := (hkq.cell (p := ⟨kb, ko + 2, none⟩) (lt_of_cell z5) (Ne.symm hgk)).trans z5
              have s15' := (hkq.cell (p := ⟨bS, 1, none⟩) (lt_of_cell s15) (by simp only; omega)).trans s15
              have HFQ : Hid (FM ns w1 F5 (KT ++ st) ((KT.take m).reverse ++ st) _ _) := hfm
              have HKQ : Hid (Kept (fun k => k = g) W5 _) := hkq
              have hmti : (m : Int) < (ids.length : Int) := by omega
              have hlm : ((KT.take m).reverse ++ st).length = m + st.length := by
                have := HKT.out
                simp; omega
              have hown := hfm.own
              rw [hlm] at hown
              obtain ⟨i1, hi1, hy0, hy1, hy2⟩ := info_parts info151
              generalize ids[m] = im at *
              have HOQ : Hid (∀ k, some k = (_ : Value).ownBlock → k = g ∨ W5.heap.size ≤ k) := hoq
              have hbw : w1.heap.size ≤ wr.heap.size := hfm.kept.size
              have HLM : Hid (((KT.take m).reverse ++ st).length = m + st.length) := hlm
              clear hfm hkq hoq hkt hic z5 s15 hlm
              go_wp2_with (at_builtin; go_must (refine wpList_append_own_at _ rfl _ _ 152 rfl w1.heap.size 151 i1 _ 2 16 Tryd.underlying152 hi1 hy0 hy1 hy2 rfl (by decide) u6 (m + st.length) _ rfl (hown.alloc _) ⟨wr.heap.size, 0, none⟩ 1 1 [.int .i64 im, .pointer (some ⟨nb, m * 3, none⟩)] rfl rfl (two_cells _ _ _ _) (by intro y hy; simp at hy; rcases hy with rfl | rfl <;> rfl) (by unfold maxLen; omega) (by omega) (by simp; omega) ?_); intro sv6 w6 hown6 hgrow6 hnil6 hloc6)
              have HP : Hid (FM ns w1 F5 (KT ++ st) ((KT.take (m + 1)).reverse ++ st) sv6 w6) := by
                have h1 := (HFQ.out.keep ((Kept.refl _ _).alloc (.cells #[.int .i64 im, .pointer (some ⟨nb, m * 3, none⟩)] 151))).push (k := ⟨im, nb, m * 3, tm⟩) (List.mem_append.2 (.inl (List.mem_of_getElem? HKTM.out))) (by rw [HLM.out]; exact hown6) hgrow6 hloc6
                have h2 : (KT.take (m + 1)).reverse ++ st = ⟨im, nb, m * 3, tm⟩ :: ((KT.take m).reverse ++ st) := by
                  rw [List.take_add_one, HKTM.out]
                  simp
                rw [h2]
                exact h1
              have HK6 : Hid (Kept (fun k => k = g) W5 w6) := (HKQ.out.alloc _).grown hgrow6 (fun k hk e => by
                rcases HOQ.out k e with h | h
                · exact h
                · omega)
              have HO6 : Hid (∀ k, some k = sv6.ownBlock → k = g ∨ W5.heap.size ≤ k) := fun k hk => by
                rcases hloc6 with e | e
                · exact HOQ.out k (hk.trans e)
                · rw [e] at hk
                  have := Option.some.inj hk
                  have h5 := HKQ.out.size
                  refine .inr ?_
                  simp at this
                  omega
              clear hown6 hgrow6 hnil6 hloc6 hown hic' z5' s15'
              go_wp2
              go_roundw
              case rel => exact ⟨m + 1, by omega, by go_num, HP.out, HK6.out, HO6.out⟩
              case measure => simp [intOf]; omega
            · obtain rfl : m = ids.length := by omega
              have hall : KT.take ids.length = KT := List.take_of_length_le (by have := HKT.out; omega)
              rw [hall] at hfm
              have HFX : Hid (FM ns w1 F5 (KT.reverse ++ st) (KT.reverse ++ st) u6 wr) := hfm.perm
              clear hfm hkq hoq z5 s15
              go_wp2
              go_roundg (sumT (KT.reverse ++ st))
              case measure =>
                have h1 := HSUM.out
                have h2 := HKSZ.out
                simp only [sumT, List.map_cons, List.map_append, List.map_reverse, List.sum_append, List.sum_reverse, List.sum_cons, Tr.size] at h1 h2 ⊢
                omega
              case rel =>
                refine ⟨F5, _, HFX.out, HFR5.out, rfl, ?_⟩
                have h1 := HSUM.out
                have h2 := HKSZ.out
                simp only [sumT, List.map_cons, List.map_append, List.map_reverse, List.sum_append, List.sum_reverse, List.sum_cons, Tr.size] at h1 h2 ⊢
                omega
end Go.Proofs.YtdbpdanocpfboaaDoor
