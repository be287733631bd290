import Derived.Test.YtdbpdanocpfboaaDoorZWi4
/- Within and Later of package nodes. -/
namespace Go.Proofs.YtdbpdanocpfboaaDoor
open Go.RowKit Go.Shelf
attribute [local go_sem] Oper.semAt_some

theorem frozen_new (w : World) (cs : Array Value) (t : TypeId) (b : Nat) (hb : b = w.heap.size) : (w.alloc (.cells cs t)).frozen? ⟨b, 0, none⟩ = false := by
  subst hb
  have hh := (MapKept.heap_alloc w (.cells cs t)).1
  unfold World.frozen?
  dsimp only
  rw [hh]
  rfl

set_option maxRecDepth 100000 in
set_option maxHeartbeats 1000000 in
theorem within91 (w : World) (ns : List Nd) (rt : Tr) (i0 : Int) (L : Nat) (hL : LRead w L ns) (ho : Ord ns) (hn : ns.Nodup) (hd : Den ns i0 rt) (hw : rt.well) (hsz : rt.size ≤ 268435456) :
    Calls Tryd.prog 91 #[.pointer (some ⟨L, 0, none⟩), .int .i64 i0] w fun e w' => ∃ ov od, e = .returned ov ∧ Kept (fun _ => False) w w' ∧ w'.ownsRow w.heap.size 3 1 ov od.length (od.map (Value.int .i64)) ∧ RelL ns od (visT rt []) ∧ od.length ≤ 2 * rt.size := by
  have HL : Hid (LRead w L ns) := hL
  have HD : Hid (Den ns i0 rt) := hd
  clear hL hd
  have hE : Kept (fun _ => False) w ((w.alloc (.cells #[.pointer (some ⟨L, 0, none⟩)] 80)).alloc (.cells #[.slice none 0 0] 46)) := ((Kept.refl _ _).alloc _).alloc _
  have HE : Hid _ := hE
  clear hE
  go_enter Tryd.func91, Tryd.ntmps91
  go_wp2_with (go_at_call 128; go_must (refine (walk128 w _ ns rt i0 w.heap.size (w.heap.size + 1) L HE.out (by simp) (by simp) (frozen_new _ _ _ _ (by simp)) (Nat.le_refl _) (by omega) (by omega) HL.out ho hn HD.out hw hsz).mono ?_); rintro e w2 ⟨rfl, hk2, ov, od, h1, h2, h3, h4⟩; obtain ⟨oa, on, oc, rfl⟩ : ∃ oa on oc, ov = .slice oa on oc := (by rcases h2.2 with ⟨h, _⟩ | ⟨g, cap, cur, h, _⟩; exact ⟨_, _, _, h⟩; exact ⟨_, _, _, h⟩))
  go_ret
  exact ⟨_, od, rfl, hk2, h2, h3, h4⟩

theorem RelL.get {ns : List Nd} : ∀ {od : List Int} {ts : List Tr} {k : Nat} {i : Int}, RelL ns od ts → od[k]? = some i → ∃ t, ts[k]? = some t ∧ Den ns i t ∧ t.well
  | [], _, k, i, _, e => by simp at e
  | _ :: _, t :: _, 0, i, h, e => by
    simp at e
    subst e
    exact ⟨t, rfl, h.1⟩
  | _ :: r, _ :: s, k + 1, i, h, e => RelL.get (od := r) (ts := s) h.2 (by simpa using e)
theorem lat_step (ts : List Tr) (k : Nat) (t : Tr) (h : ts[k]? = some t) : (ts.take (k + 1)).filter latT = (ts.take k).filter latT ++ (if latT t then [t] else []) := by
  rw [List.take_add_one, h, List.filter_append]
  congr 1
  simp [List.filter]
  split <;> simp_all
/-- what Later keeps: the parts so far, apart from the row that it reads -/
structure LtI (w : World) (ns : List Nd) (ts : List Tr) (od : List Int) (ov : Value) (k : Nat) (pv : Value) (ps : List Int) (wr : World) : Prop where
  kept : Kept (fun _ => False) w wr
  orow : wr.ownsRow w.heap.size 3 1 ov od.length (od.map (Value.int .i64))
  prow : wr.ownsRow w.heap.size 3 1 pv ps.length (ps.map (Value.int .i64))
  rel : RelL ns ps ((ts.take k).filter latT)
  le : ps.length ≤ k
  apart : ∀ b, inRow pv b → ¬ inRow ov b
theorem LtI.skip {w wr : World} {ns : List Nd} {ts : List Tr} {od ps : List Int} {ov pv : Value} {k : Nat} {t : Tr} (h : LtI w ns ts od ov k pv ps wr) (ht : ts[k]? = some t) (hl : latT t = false) : LtI w ns ts od ov (k + 1) pv ps wr :=
  { h with rel := by rw [lat_step ts k t ht, hl]; simpa using h.rel, le := Nat.le_succ_of_le h.le }
theorem LtI.take {w wr w' : World} {ns : List Nd} {ts : List Tr} {od ps : List Int} {ov pv pv' : Value} {k : Nat} {t : Tr} {i : Int} (h : LtI w ns ts od ov k pv ps wr) (ht : ts[k]? = some t) (hl : latT t = true) (hd : Den ns i t) (hw : t.well)
    (hr : w'.ownsRow w.heap.size 3 1 pv' (ps.length + 1) ((ps ++ [i]).map (Value.int .i64))) (hg : wr.grownBy w' pv.ownBlock) (hloc : pv'.ownBlock = pv.ownBlock ∨ pv'.ownBlock = some wr.heap.size) : LtI w ns ts od ov (k + 1) pv' (ps ++ [i]) w' := by
  have hk : Kept (fun b => inRow pv b) wr w' := (Kept.refl _ _).grown hg (fun k _ e => e)
  refine ⟨h.kept.trans hk (fun b hb e => by have := (ownsRow_lt h.prow e).2; omega), ownsRow_of_block h.orow (fun b hb => hk.block b (ownsRow_lt h.orow hb).1 (fun e => h.apart b e hb)), by simpa using hr, ?_, by have := h.le; simp; omega, fun b e1 e2 => ?_⟩
  · rw [lat_step ts k t ht, hl]
    simpa using h.rel.snoc hd hw
  · rcases loc_new hloc e1 with e | e
    · exact h.apart b e e2
    · have := (ownsRow_lt h.orow e2).1; omega

set_option maxRecDepth 100000 in
set_option maxHeartbeats 2000000 in
theorem later55 (w : World) (ns : List Nd) (rt : Tr) (i0 : Int) (L : Nat) (hL : LRead w L ns) (ho : Ord ns) (hn : ns.Nodup) (hd : Den ns i0 rt) (hw : rt.well) (hsz : rt.size ≤ 268435456) :
    Calls Tryd.prog 55 #[.pointer (some ⟨L, 0, none⟩), .int .i64 i0] w fun e w' => ∃ pv ps, e = .returned pv ∧ Kept (fun _ => False) w w' ∧ w'.ownsRow w.heap.size 3 1 pv ps.length (ps.map (Value.int .i64)) ∧ RelL ns ps ((visT rt []).filter latT) ∧ ps.length ≤ 2 * rt.size := by
  have HL : Hid (LRead w L ns) := hL
  have HD : Hid (Den ns i0 rt) := hd
  clear hL hd
  obtain ⟨i3, hi3, hz30, hz31, hz32⟩ := info_parts info3
  go_enter Tryd.func55, Tryd.ntmps55
  go_wp2_with (go_at_call 91; go_must (refine (within91 w ns rt i0 L HL.out ho hn HD.out hw hsz).mono ?_); rintro e w2 ⟨ov, od, rfl, hk2, h2, h3, h4⟩; obtain ⟨oa, oc, rfl⟩ : ∃ oa oc, ov = .slice oa od.length oc := (by rcases h2.2 with ⟨h, h'⟩ | ⟨g, cap, cur, h, _⟩; exact ⟨none, 0, by rw [h, h']⟩; exact ⟨_, _, h⟩))
  have hst : LtI w ns (visT rt []) od (.slice oa od.length oc) 0 (.slice none 0 0) [] w2 := ⟨hk2, h2, World.ownsRow_nil _ _ _ _, trivial, Nat.le_refl _, fun b e => by simp [inRow, Value.ownBlock] at e⟩
  have HS : Hid _ := hst
  have hrl : (visT rt []).length = od.length := h3.len.symm
  have HR : Hid (RelL ns od (visT rt [])) := h3
  clear hst hk2 h2 h3
  go_loopw [5, 7, 12] (fun p _ i wr => ∃ (k : Nat) (ps : List Int), k ≤ od.length ∧ i = .int .i64 k ∧ LtI w ns (visT rt []) od (.slice oa od.length oc) k p ps wr) (fun _ _ i _ => od.length - (intOf i).toNat)
  case atStart => exact ⟨0, [], Nat.zero_le _, rfl, HS.out⟩
  case round =>
    obtain ⟨k, ps, hk, rfl, hI⟩ := hrel
    by_cases hlt : k < od.length
    · obtain ⟨t, ht, hdt, hwt⟩ := HR.out.get (List.getElem?_eq_getElem hlt)
      obtain ⟨op, n, ks⟩ := t
      obtain ⟨j, x, e0, hx, _⟩ := den_kids ho hdt hwt
      have hop : x.op = op := by
        obtain ⟨j', ids, e1, hg, _⟩ := hdt
        have : j' = j := by omega
        subst this
        rw [hx] at hg
        have : x = mkNd op n ids := by simpa using hg
        rw [this]
        unfold mkNd
        split <;> rfl
      have hlti : (k : Int) < (od.length : Int) := by omega
      obtain ⟨g, rfl⟩ : ∃ g, oa = some ⟨g, 0, none⟩ := by
        rcases hI.orow.2 with ⟨h, h'⟩ | ⟨g, cap, cur, h, _⟩
        · omega
        · injection h with h
          exact ⟨g, h⟩
      have hok : wr.cell? ⟨g, k, none⟩ = some (.int .i64 (j : Int)) := by
        have := hI.orow.cells (g := g) rfl k (.int .i64 (j : Int)) (by rw [List.getElem?_map, List.getElem?_eq_getElem hlt, ← e0]; rfl)
        rwa [addr_add] at this
      obtain ⟨la, lc, l1, l2, l3⟩ := HL.out.kept hI.kept
      obtain ⟨lg, rfl, a0, _, _, _⟩ := l3 j x hx
      rw [hop] at a0
      have hjn : (j : Int) < (ns.length : Int) := by have := (List.getElem?_eq_some_iff.1 hx).1; omega
      have HI : Hid (LtI w ns (visT rt []) od (.slice (some ⟨g, 0, none⟩) od.length oc) k u5 ps wr) := hI
      have HT : Hid _ := ht
      rw [e0] at hdt
      have HDT : Hid (Den ns (j : Int) (.mk op n ks) ∧ (Tr.mk op n ks).well) := ⟨hdt, hwt⟩
      have hpr := hI.prow
      have hkp := hI.kept.size
      have hple := hI.le
      clear hI ht hdt hwt l3 hx hop
      by_cases hl : 7 ≤ op ∧ op ≤ 9
      · have hlt2 : latT (.mk op n ks) = true := by simp [latT, Tr.op, hl]
        have HL2 : Hid _ := hlt2
        clear hlt2
        obtain rfl | rfl | rfl : op = 7 ∨ op = 8 ∨ op = 9 := by omega
        all_goals
          go_wp2_with (at_builtin; go_must (refine wpList_append_own_at _ rfl _ _ 46 rfl w.heap.size 3 i3 (.int .i64 0) 1 8 Tryd.underlying46 hi3 hz30 hz31 hz32 rfl (by decide) _ ps.length _ rfl (hpr.alloc _) ⟨wr.heap.size, 0, none⟩ 1 1 [.int .i64 (j : Int)] rfl rfl (int1 _ _ _) (by intro y hy; simp at hy; subst hy; rfl) (by unfold maxLen; omega) (by omega) (by simp; omega) ?_); intro pv5 w5 hown5 hgrow5 hnil5 hloc5)
          go_roundw
          case rel =>
            refine ⟨k + 1, ps ++ [(j : Int)], by omega, by simp, ?_⟩
            have h1 := HI.out
            have h2 : LtI w ns (visT rt []) od (.slice (some ⟨g, 0, none⟩) od.length oc) k u5 ps (wr.alloc (.cells #[.int .i64 (j : Int)] 3)) := ⟨h1.kept.trans ((Kept.refl (fun _ => False) _).alloc _) (fun _ _ f => f), h1.orow.alloc _, h1.prow.alloc _, h1.rel, h1.le, h1.apart⟩
            exact h2.take HT.out HL2.out HDT.out.1 HDT.out.2 (by simpa using hown5) hgrow5 hloc5
          case measure => simp [intOf]; omega
      · have hlt2 : latT (.mk op n ks) = false := by unfold latT; exact decide_eq_false hl
        have e7 : (op == 7) = false := by simp; omega
        have e8 : (op == 8) = false := by simp; omega
        have e9 : (op == 9) = false := by simp; omega
        have HL2 : Hid _ := hlt2
        clear hlt2
        go_wp2
        go_roundw
        case rel => exact ⟨k + 1, ps, by omega, by simp, HI.out.skip HT.out HL2.out⟩
        case measure => simp [intOf]; omega
    · obtain rfl : k = od.length := by omega
      obtain ⟨pa, pn, pc, rfl⟩ : ∃ pa pn pc, u5 = .slice pa pn pc := by
        rcases hI.prow.2 with ⟨h, _⟩ | ⟨g, cap, cur, h, _⟩
        · exact ⟨_, _, _, h⟩
        · exact ⟨_, _, _, h⟩
      go_wp2
      go_ret
      refine ⟨_, ps, rfl, hI.kept, hI.prow, ?_, by have := hI.le; omega⟩
      have := hI.rel
      rwa [← hrl, List.take_length] at this
end Go.Proofs.YtdbpdanocpfboaaDoor
