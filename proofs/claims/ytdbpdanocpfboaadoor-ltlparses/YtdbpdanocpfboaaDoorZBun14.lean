import Derived.Test.YtdbpdanocpfboaaDoorZWr2
import Derived.Test.YtdbpdanocpfboaaDoorZPts
import Derived.Test.YtdbpdanocpfboaaDoorZBun13
import Derived.Test.YtdbpdanocpfboaaDoorZRp6
import Derived.Test.YtdbpdanocpfboaaDoorZBun04
import Derived.Test.YtdbpdanocpfboaaDoorZSpl
/- The program's Print. -/
namespace Go.Proofs.YtdbpdanocpfboaaDoor
open Go.RowKit

set_option maxRecDepth 100000 in
set_option maxHeartbeats 4000000 in
theorem print15 (w : World) (B : Nat) (v : Value) (t : Tr) (ht : t.well) (hv : FormV B w v t) (hB : B ≤ w.heap.size) (hT : TabK w) (hS : TabS w) (hB2 : 2 ≤ B) (hsz : t.size ≤ 16777216) :
    Calls Tryd.prog 15 #[v] w fun e w' => e = .returned (.string ⟨(printT t).toArray⟩) ∧ Kept (fun _ => False) w w' := by
  obtain ⟨op, n, ka, kl, kc, rfl⟩ := hv.agg
  obtain ⟨w1, hw1⟩ : ∃ w1, w1 = w.alloc (.cells #[.int .i64 op, .int .i64 n, .slice ka kl kc] 24) := ⟨_, rfl⟩
  have k1 : Kept (fun _ => False) w w1 := by rw [hw1]; exact (Kept.refl _ _).alloc _
  have c0 : w1.cell? ⟨w.heap.size, 0, none⟩ = some (.int .i64 op) := by rw [hw1]; simp
  have c1 : w1.cell? ⟨w.heap.size, 1, none⟩ = some (.int .i64 n) := by rw [hw1]; simp
  have c2 : w1.cell? ⟨w.heap.size, 2, none⟩ = some (.slice ka kl kc) := by rw [hw1]; simp
  have HV1 : Hid (FormV B w1 (.agg #[.int .i64 op, .int .i64 n, .slice ka kl kc]) t) := hv.below (k1.below hB (fun _ f => f.elim))
  have HT1 : Hid (TabK w1) := hT.kept k1 (fun f => f)
  have HS1 : Hid (TabS w1) := hS.keptS k1 (fun f => f)
  have hB1 : B ≤ w1.heap.size := Nat.le_trans hB k1.size
  have HW : Hid t.well := ht
  clear hv hT hS ht
  go_enter Tryd.func15, Tryd.ntmps15
  go_upto_region 1 with fail
  rw [← hw1]
  clear hw1
  go_upto_region 2 with (go_at_call 49; refine (of49 _ B _ t HV1.out hB1 HT1.out hB2 (by omega)).mono ?_; rintro e w2 ⟨k2, h2⟩; obtain ⟨_, L, bm, nv, ns, rfl, hL, hd, ho, hl⟩ := (h2.resolve_left (fun h => h.1 HW.out)); clear h2)
  have HR : Hid (LRead w2 L ns) := hL.read
  have HO : Hid (Ord ns) := ho
  have hnp : 0 < ns.length := by have := hd.lt; omega
  obtain ⟨j, hj⟩ : ∃ j : Nat, ns.length = j + 1 := ⟨ns.length - 1, by omega⟩
  have hje : (ns.length : Int) - 1 = (j : Int) := by omega
  rw [hje] at hd
  have HD : Hid (Den ns (j : Int) t) := hd
  have hjn : j < ns.length := by omega
  have hjni : (j : Int) < (ns.length : Int) := by omega
  have hnl : ns.length ≤ 536870912 := by omega
  have hin : wrap64 ((ns.length : Int) - 1) = (j : Int) := by unfold wrap64; omega
  obtain ⟨la, lc, l1, l2, _⟩ := id HR.out
  clear hL hd ho c0 c1 c2 HV1 HT1 hB1
  obtain ⟨Z, hZ⟩ : ∃ Z, Z = capS t.size := ⟨_, rfl⟩
  have hz : Z ≤ 2147483647 := by rw [hZ]; unfold capS; split <;> omega
  have HZ : Hid _ := hZ
  clear hZ hje
  have HS2 : Hid (TabS w2) := HS1.out.keptS k2 (fun f => f)
  go_upto_region 5 with (go_at_call 50; refine (len50 w2 L la ns.length lc l1).mono ?_; rintro e w3 ⟨rfl, hx3⟩; rw [hx3]; clear hx3)
  go_upto_region 7 with (go_at_call 51; refine (sizes51 _ L ns HR.out HO.out hnl).mono ?_; rintro e w4 ⟨sb, rfl, hs⟩; have hc := hs.done j t hjn HW.out HD.out; rw [← HZ.out] at hc; have k4 : Kept (fun _ => False) w2 w4 := hs.kept; clear hs)
  have HR4 : Hid (LRead w4 L ns) := HR.out.kept k4
  have HS4 : Hid (TabS w4) := HS2.out.keptS k4 (fun f => f)
  clear hc
  go_wp2_with (go_at_call 52; refine (write52 w4 L ns (j : Int) t HR4.out HO.out HD.out HW.out (by omega) HS4.out).mono ?_; rintro e w5 ⟨rfl, k5⟩)
  go_ret
  exact ⟨rfl, ((k1.trans k2 (fun _ _ f => f)).trans k4 (fun _ _ f => f)).trans k5 (fun _ _ f => f)⟩
end Go.Proofs.YtdbpdanocpfboaaDoor

/- The law's last word: one formula, read, printed, made plain, and its parts. -/
namespace Go.Proofs.YtdbpdanocpfboaaDoor
open Go.RowKit

/-- reads, and says nothing where it does not know -/
def evalP (s : ByteArray) : Nat → Nt → Nat → Nat → Option PRes
  | 0, _, _, _ => none
  | f + 1, .read row, i, d =>
    if row = 4 then evalP s f .one i d
    else if row < 4 then
      match evalP s f (.read (row + 1)) i d with
      | some (.ok g i1) => evalP s f (.loop row g) i1 d
      | _ => none
    else none
  | f + 1, .loop row g, i, d =>
    match sgn row (byteN s (skipB s i)) with
    | none => some (.ok g (skipB s i))
    | some op =>
      if row = 0 then
        if byteN s (skipB s i) = 45 ∧ byteN s (skipB s i + 1) = 62 then
          match evalP s f (.read 0) (skipB s i + 2) d with
          | some r => some (r.map (binT 6 g))
          | none => none
        else none
      else if row = 3 then
        match evalP s f (.read 3) (skipB s i + 1) d with
        | some r => some (r.map (binT op g))
        | none => none
      else if row = 1 ∨ row = 2 then
        match evalP s f (.read (row + 1)) (skipB s i + 1) d with
        | some (.ok h i2) => evalP s f (.loop row (binT op g h)) i2 d
        | _ => none
      else none
  | f + 1, .one, i, d =>
    match ahd (byteN s (skipB s i)) with
    | some op =>
      if d = 20 then none else
        match evalP s f .one (skipB s i + 1) (d + 1) with
        | some r => some (r.map fun t => .mk op 0 [t])
        | none => none
    | none =>
      if byteN s (skipB s i) = 40 then
        if d = 20 then none else
          match evalP s f (.read 0) (skipB s i + 1) (d + 1) with
          | some (.ok g k) => if byteN s k = 41 then some (.ok g (k + 1)) else none
          | _ => none
      else if wendB s (skipB s i) = skipB s i + 1 ∧ skipB s i < s.size ∧ byteN s (skipB s i) ≤ 104 then some (.ok (.mk 2 ((byteN s (skipB s i) : Int) - 97) []) (skipB s i + 1))
      else none
theorem wordR_one {s : ByteArray} {i : Nat} (h1 : wendB s i = i + 1) (h2 : i < s.size) (h3 : byteN s i ≤ 104) : wordR s i = .ok (.mk 2 ((byteN s i : Int) - 97) []) (i + 1) := by
  have hsz : (s.extract i (i + 1)).size = 1 := by simp; omega
  unfold wordR
  simp only [h1]
  rw [if_neg (fun e => by rw [e] at hsz; exact absurd hsz (by decide)), if_neg (fun e => by rw [e] at hsz; exact absurd hsz (by decide)), if_pos ⟨trivial, h3⟩]
theorem evalP_ps {s : ByteArray} : ∀ (f : Nat) (n : Nt) (i d : Nat) (r : PRes), evalP s f n i d = some r → PS s n i d r := by
  intro f
  induction f with
  | zero => intro n i d r h; cases h
  | succ f ih =>
    intro n i d r h
    cases n with
    | read row =>
      unfold evalP at h
      split at h
      · rename_i e; subst e; exact .bottom (ih _ _ _ _ h)
      · split at h
        · rename_i hr
          split at h
          · rename_i g i1 e
            exact .rgo hr (ih _ _ _ _ e) (ih _ _ _ _ h)
          · cases h
        · cases h
    | loop row g =>
      unfold evalP at h
      split at h
      · rename_i e; cases h; exact .done e
      · rename_i op e
        split at h
        · rename_i hr
          subst hr
          split at h
          · rename_i h2
            split at h
            · rename_i r' e'
              cases h
              exact .imp h2.1 h2.2 (ih _ _ _ _ e')
            · cases h
          · cases h
        · split at h
          · rename_i hr
            subst hr
            split at h
            · rename_i r' e'
              cases h
              exact .right e (ih _ _ _ _ e')
            · cases h
          · split at h
            · rename_i hr
              split at h
              · rename_i h' i2 e'
                exact .left hr e (ih _ _ _ _ e') (ih _ _ _ _ h)
              · cases h
            · cases h
    | one =>
      unfold evalP at h
      split at h
      · rename_i op e
        split at h
        · cases h
        · rename_i hd
          split at h
          · rename_i r' e'
            cases h
            exact .sign e hd (ih _ _ _ _ e')
          · cases h
      · rename_i e
        split at h
        · rename_i h40
          split at h
          · cases h
          · rename_i hd
            split at h
            · rename_i g k e'
              split at h
              · rename_i h41
                cases h
                exact .open h40 hd (ih _ _ _ _ e') h41
              · cases h
            · cases h
        · rename_i h40
          split at h
          · rename_i hw
            cases h
            have := PS.word (s := s) (i := i) (d := d) e h40
            rwa [wordR_one hw.1 hw.2.1 hw.2.2] at this
          · cases h
def aliveS : ByteArray := ⟨#[71, 40, 97, 32, 45, 62, 32, 88, 32, 70, 32, 33, 98, 41, 32, 38, 32, 99, 32, 85, 32, 100]⟩
def aliveT : Tr := .mk 4 0 [.mk 11 0 [.mk 6 0 [.mk 2 0 [], .mk 7 0 [.mk 10 0 [.mk 3 0 [.mk 2 1 []]]]]], .mk 8 0 [.mk 2 2 [], .mk 2 3 []]]
set_option maxRecDepth 100000 in
theorem alive_reads : PS aliveS (.read 0) 0 0 (.ok aliveT 22) := evalP_ps 60 _ _ _ _ (by kernel_rfl)
theorem TabS_kept {w w' : World} (h : TabS w) (hk : Kept (fun _ => False) w w') : TabS w' := fun j hj => ⟨(hk.cell (p := ⟨0, 2 * j, none⟩) (lt_of_cell (h j hj).1) (fun f => f)).trans (h j hj).1, (hk.cell (p := ⟨0, 2 * j + 1, none⟩) (lt_of_cell (h j hj).2) (fun f => f)).trans (h j hj).2⟩
theorem alive_pw : PW aliveS (.ok aliveT 22) := ⟨_, alive_reads, by simp [show aliveS.size = 22 from rfl]⟩
theorem alive_well : aliveT.well := alive_pw.info.1
def aliveP : Tr := .mk 4 0 [.mk 9 0 [.mk 1 0 [], .mk 5 0 [.mk 3 0 [.mk 2 0 []], .mk 7 0 [.mk 8 0 [.mk 0 0 [], .mk 3 0 [.mk 2 1 []]]]]], .mk 8 0 [.mk 2 2 [], .mk 2 3 []]]
theorem alive_plain : plainT aliveT false = aliveP := by
  simp [aliveT, aliveP, plainT, leafT, binT]
theorem alive_plainF : plainF aliveT = aliveP := by rw [plainF, if_pos ((wellB_iff _).2 alive_well), alive_plain]
theorem alive_print : printT aliveT = [40, 71, 40, 97, 45, 62, 88, 70, 33, 98, 41, 38, 40, 99, 85, 100, 41, 41] := by rfl
theorem alive_printP : printT aliveP = [40, 40, 102, 97, 108, 115, 101, 82, 40, 33, 97, 124, 88, 40, 116, 114, 117, 101, 85, 33, 98, 41, 41, 41, 38, 40, 99, 85, 100, 41, 41] := by rfl
theorem alive_parts : (visT aliveP []).filter latT = [.mk 8 0 [.mk 0 0 [], .mk 3 0 [.mk 2 1 []]], .mk 7 0 [.mk 8 0 [.mk 0 0 [], .mk 3 0 [.mk 2 1 []]]], .mk 9 0 [.mk 1 0 [], .mk 5 0 [.mk 3 0 [.mk 2 0 []], .mk 7 0 [.mk 8 0 [.mk 0 0 [], .mk 3 0 [.mk 2 1 []]]]]], .mk 8 0 [.mk 2 2 [], .mk 2 3 []]] := by
  simp [aliveP, visT, visTs, latT, Tr.op, List.filter]
set_option maxHeartbeats 400000 in
theorem num14 (w : World) (x : Int) : Calls Tryd.prog 14 #[.int .i64 x] w fun e w' => e = .returned (.int .i64 x) ∧ w' = w := by
  go_enter Tryd.func14, Tryd.ntmps14
  go_wp2
  go_ret
  exact ⟨rfl, rfl⟩
theorem parse_alive (w : World) (hS : TabS w) : Calls Tryd.prog 11 #[.string aliveS] w fun e w' => ∃ o n a l c, e = .returned (.tuple #[.agg #[.int .i64 o, .int .i64 n, .slice a l c], .int .i64 0, .int .i64 0]) ∧ Kept (fun _ => False) w w' ∧ FormV w'.heap.size w' (.agg #[.int .i64 o, .int .i64 n, .slice a l c]) aliveT := by
  refine (parse11 w aliveS (by decide) hS).mono ?_
  rintro e w' ⟨r, h1, hk, h2⟩
  obtain rfl := h1.det alive_pw
  obtain ⟨v, rfl, hF⟩ := h2
  obtain ⟨o, n, a, l, c, rfl⟩ := hF.agg
  exact ⟨o, n, a, l, c, rfl, hk, hF.form (fun b hb => hb.2)⟩

set_option maxRecDepth 100000 in
set_option maxHeartbeats 4000000 in
theorem alive18 (w : World) (hS : TabS w) (hK : TabK w) (hT : TabT w) : Calls Tryd.prog 18 #[] w fun e w' => e = .returned (.bool true) ∧ Kept (fun _ => False) w w' := by
  go_enter Tryd.func18, Tryd.ntmps18
  go_upto_region 2 with (go_at_call 11; go_must (refine (parse_alive _ hS).mono ?_); rintro e w1 ⟨o, n, a, l, c, rfl, k1, hF⟩)
  obtain ⟨w2, hw2⟩ : ∃ w2, w2 = w1.alloc (.cells #[.int .i64 o, .int .i64 n, .slice a l c] 24) := ⟨_, rfl⟩
  have k2 : Kept (fun _ => False) w1 w2 := by rw [hw2]; exact (Kept.refl _ _).alloc _
  have b0 : w2.cell? ⟨w1.heap.size, 0, none⟩ = some (.int .i64 o) := by rw [hw2]; simp
  have b1 : w2.cell? ⟨w1.heap.size, 1, none⟩ = some (.int .i64 n) := by rw [hw2]; simp
  have b2 : w2.cell? ⟨w1.heap.size, 2, none⟩ = some (.slice a l c) := by rw [hw2]; simp
  have hbl : w1.heap.size < w2.heap.size := lt_of_cell b0
  have k02 := k1.trans k2 (fun _ _ f => f)
  have h3 : 3 ≤ w1.heap.size := by
    have := lt_of_cell (hT 0 (by decide))
    have := k1.size
    simp only at *
    omega
  have ALL : ∀ wr, Kept (fun _ => False) w2 wr → TabS wr ∧ TabK wr ∧ TabT wr ∧ FormV w1.heap.size wr (.agg #[.int .i64 o, .int .i64 n, .slice a l c]) aliveT ∧ w1.heap.size ≤ wr.heap.size ∧ wr.cell? ⟨w1.heap.size, 0, none⟩ = some (.int .i64 o) ∧ wr.cell? ⟨w1.heap.size, 1, none⟩ = some (.int .i64 n) ∧ wr.cell? ⟨w1.heap.size, 2, none⟩ = some (.slice a l c) := by
    intro wr hk
    have k0r := k02.trans hk (fun _ _ f => f)
    have k1r := k2.trans hk (fun _ _ f => f)
    exact ⟨TabS_kept hS k0r, hK.kept k0r (fun f => f), hT.kept k0r (fun f => f), hF.below (k1r.below (Nat.le_refl _) (fun _ f => f.elim)), k1r.size, (hk.cell (p := ⟨w1.heap.size, 0, none⟩) hbl (fun f => f)).trans b0, (hk.cell (p := ⟨w1.heap.size, 1, none⟩) hbl (fun f => f)).trans b1, (hk.cell (p := ⟨w1.heap.size, 2, none⟩) hbl (fun f => f)).trans b2⟩
  have HA : Hid _ := ALL
  have K02 : Hid _ := k02
  obtain ⟨s2, t2, u2, f2, z2, _, _, _⟩ := ALL w2 (Kept.refl _ _)
  have hsz : aliveT.size ≤ 16777216 := by decide
  have hPW : aliveP.well := by rw [← alive_plain]; exact plainT_well _ _ alive_well
  have hszP : aliveP.size ≤ 16777216 := by decide
  rw [← hw2]
  clear hw2 hF hS hK hT k1 k2 k02 ALL
  go_wp2_with
    (first
      | (go_at_call 14; refine (num14 _ _).mono ?_; rintro e w3 ⟨rfl, hw3⟩; subst w3)
      | (go_at_call 15
         first
           | (refine (print15 w2 w1.heap.size _ aliveT alive_well f2 z2 t2 s2 (by omega) hsz).mono ?_
              rintro e w4 ⟨rfl, k4⟩
              rw [alive_print]
              obtain ⟨s4, t4, u4, f4, z4, d0, d1, d2⟩ := HA.out w4 k4
              clear f2 s2 t2 u2 b0 b1 b2)
           | (refine (print15 w5 w5.heap.size _ aliveP hPW g5 (Nat.le_refl _) t5 s5 (by omega) hszP).mono ?_
              rintro e w6 ⟨rfl, k6⟩
              rw [alive_printP]
              obtain ⟨s6, t6, u6, f6, z6, h0, h1, h2⟩ := HA.out w6 ((k4.trans k5 (fun _ _ f => f)).trans k6 (fun _ _ f => f))
              clear f5 s5 t5 u5 e0 e1 e2))
      | (go_at_call 20; go_must (refine (plain20 w4 w1.heap.size _ aliveT f4 z4 t4 u4 h3 hsz).mono ?_); rintro e w5 ⟨v5, rfl, k5, hF5⟩; rw [alive_plainF] at hF5; obtain ⟨s5, t5, u5, f5, z5, e0, e1, e2⟩ := HA.out w5 (k4.trans k5 (fun _ _ f => f)); have g5 : FormV w5.heap.size w5 v5 aliveP := hF5.form (fun b hb => hb.2); clear f4 s4 t4 u4 d0 d1 d2 hF5)
      | (go_at_call 21; go_must (refine (parts21 w6 w1.heap.size _ aliveT alive_well f6 z6 t6 u6 h3 hsz (by rw [alive_plain, alive_parts]; decide)).mono ?_); rintro e w7 ⟨pv, vs, S, rfl, k7, hpf⟩; obtain ⟨pa, pc, rfl⟩ : ∃ pa pc, pv = .slice pa 4 pc := (by have h8 := hpf.row; rw [alive_plain, alive_parts] at h8; rcases h8.2 with ⟨_, h⟩ | ⟨g, cap, cur, h, _⟩; exact absurd h (by decide); exact ⟨_, _, h⟩)))
  go_ret
  exact ⟨rfl, (((K02.out.trans k4 (fun _ _ f => f)).trans k5 (fun _ _ f => f)).trans k6 (fun _ _ f => f)).trans k7 (fun _ _ f => f)⟩
end Go.Proofs.YtdbpdanocpfboaaDoor

/- The document's own answer: how a text is read; the whole. -/
namespace Go.Proofs.YtdbpdanocpfboaaDoor
open Go.RowKit

theorem saysP (s : ByteArray) (hs : s.size ≤ 200) : ∀ N, SaysP s N
  | 0 => ⟨fun w p i D A h hi hD hN => one135 s hs 0 w p i D A (fun h => by omega) h hi hD (by omega), fun w p i D A h hi hD hN => by omega, fun w p i D A h hi hD hN => by omega, fun w p i D A h hi hD hN => by omega, fun w p i D A h hi hD hN => by omega⟩
  | N + 1 =>
    have ih := saysP s hs N
    ⟨fun w p i D A h hi hD hN => one135 s hs N w p i D A (fun _ => ih) h hi hD hN, fun w p i D A h hi hD hN => two131 s hs N ih w p i D A h hi hD hN, fun w p i D A h hi hD hN => and120 s hs N ih w p i D A h hi hD hN, fun w p i D A h hi hD hN => or76 s hs N ih w p i D A h hi hD hN, fun w p i D A h hi hD hN => form46 s hs N ih w p i D A h hi hD hN⟩
/-- what the whole text is read as: a formula, or where it ends to be one -/
def PostW (w : World) (r : PRes) (e : Ending) (w' : World) : Prop := Kept (fun _ => False) w w' ∧ match r with
  | .ok t _ => ∃ v, e = .returned (.tuple #[v, .int .i64 0, .int .i64 0]) ∧ RVS (fun b => w.heap.size ≤ b ∧ b < w'.heap.size) w' v t
  | .err x a => e = .returned (.tuple #[.agg #[.int .i64 0, .int .i64 0, .slice none 0 0], .int .i64 x, .int .i64 (a : Int)])

set_option maxHeartbeats 2000000 in
theorem rparse12_long (w : World) (s : ByteArray) (hs : 200 < s.size) : Calls Tryd.prog 12 #[.string s] w fun e w' => PostW w (.err 1 0) e w' := by
  have hl2 : (200 : Int) < (s.size : Int) := by omega
  go_enter Tryd.func12, Tryd.ntmps12
  go_wp2
  refine bodyPost_ret (v := .tuple #[.agg #[.int .i64 0, .int .i64 0, .slice none 0 0], .int .i64 1, .int .i64 0]) (by simp [results, Tryd.results12, go_sem]) rfl ?_
  exact ⟨(Kept.refl _ _).alloc _, rfl⟩
theorem wb3_kf {w1 W : World} {p : Nat} {w : World} (k1 : Kept (fun _ => False) w w1) (k2 : Kept (fun k => k = p) w1 W) (hp : w.heap.size ≤ p) : Kept (fun _ => False) w W := k1.trans k2 (fun k hk e => by omega)

set_option maxRecDepth 100000 in
set_option maxHeartbeats 4000000 in
theorem rparse12 (w : World) (s : ByteArray) (hs : s.size ≤ 200) : Calls Tryd.prog 12 #[.string s] w fun e w' => ∃ r, PW s r ∧ PostW w r e w' := by
  have hl2 : ¬ (200 : Int) < (s.size : Int) := by omega
  obtain ⟨w1, hw1⟩ : ∃ w1, w1 = (w.alloc (.cells #[.int .i64 0, .int .i64 0, .slice none 0 0] 30)).alloc (.cells #[.string s, .int .i64 0, .int .i64 0, .int .i64 0, .int .i64 0] 77) := ⟨_, rfl⟩
  have k1 : Kept (fun _ => False) w w1 := by rw [hw1]; exact ((Kept.refl _ _).alloc _).alloc _
  have hr : Wb3 w1 w.heap.size (.int .i64 0) (.int .i64 0) (.slice none 0 0) := by rw [hw1]; exact (Wb3.new _ _ _ _ _).kept ((Kept.refl _ _).alloc _)
  have hP : Pst w1 (w.heap.size + 1) s 0 0 0 0 := by
    rw [hw1]
    refine ⟨?_, ?_, ?_, ?_, ?_, ?_, ?_, ?_, ?_⟩ <;> simp [go_sem]
  have hpl := hP.lt
  have HP : Hid (Pst w1 (w.heap.size + 1) s 0 0 0 0) := hP
  go_enter Tryd.func12, Tryd.ntmps12
  go_upto_region 4 with fail
  rw [← hw1]
  clear hw1 hP
  obtain ⟨p, hp⟩ : ∃ p, w.heap.size + 1 = p := ⟨_, rfl⟩
  have HPE : Hid (w.heap.size + 1 = p) := hp
  rw [hp] at HP hpl
  rw [hp]
  have hpr : ¬ w.heap.size = p := by omega
  clear hp
  go_upto_region 5 with (go_at_call 46; refine ((saysP s hs (8 * s.size + 5)).form w1 p 0 0 0 HP.out (by omega) (by omega) (by omega)).mono ?_; rintro e w2 ⟨v, q, rfl, hps, hpost⟩; obtain ⟨o1, n1, a1, l1, e1, rfl⟩ := hpost.agg; have HPS : Hid (PS s (.read 0) 0 0 q) := hps; have HQ : Hid (PostR w1 p s 0 0 q (.agg #[.int .i64 o1, .int .i64 n1, .slice a1 l1 e1]) w2) := hpost; clear hps hpost)
  obtain ⟨w3, hw3⟩ : ∃ w3, w3 = w2.alloc (.cells #[.int .i64 o1, .int .i64 n1, .slice a1 l1 e1] 30) := ⟨_, rfl⟩
  have b3 : Wb3 w3 w2.heap.size (.int .i64 o1) (.int .i64 n1) (.slice a1 l1 e1) := by rw [hw3]; exact Wb3.new _ _ _ _ _
  have HQ3 : Hid (PostR w1 p s 0 0 q (.agg #[.int .i64 o1, .int .i64 n1, .slice a1 l1 e1]) w3) := by rw [hw3]; exact HQ.out.al _
  have h12 := HQ.out.1.size
  rw [← hw3]
  clear hw3 HQ
  have hr3 : Wb3 w3 w.heap.size (.int .i64 0) (.int .i64 0) (.slice none 0 0) := hr.keptS HQ3.out.1 hpr
  have hlr := hr.1
  have hn : ¬ w2.heap.size = p := by omega
  have hn2 : ¬ w.heap.size = w2.heap.size := by omega
  have hn3 : ¬ w2.heap.size = w.heap.size := by omega
  generalize w2.heap.size = bf at *
  cases q with
  | err x a =>
    obtain ⟨⟨I, hP, hI⟩, _⟩ := HQ3.out.2
    have hx : x ≠ 0 := by
      rcases (HPS.out.err_place (by omega) rfl).1 with h | h <;> omega
    have hx' : (x != 0) = true := by simpa using hx
    have HX : Hid (x ≠ 0) := hx
    have HP3 : Hid (Pst w3 p s I 0 x (a : Int)) := hP
    have HW : Hid (PW s (.err x a)) := ⟨_, HPS.out, rfl⟩
    clear hP hx
    go_upto_region 6 with (go_at_call 47; refine (blanks47 _ p s I 0 x a HP3.out hI hs).mono ?_; rintro e w4 ⟨rfl, hp4, k4⟩)
    have HP4 : Hid (Pst w4 p s (skipB s I) 0 x (a : Int)) := hp4
    have ht4 := skipB_top (s := s) hI
    have b4 := b3.keptS k4 hn
    have hr4 := hr3.keptS k4 hpr
    have K4 : Hid (Kept (fun _ => False) w w4) := wb3_kf k1 (HQ3.out.1.trans k4 (fun _ _ e => e)) (by have := HPE.out; omega)
    obtain ⟨c0, c1, c2, c3, c4, f1, f2, f3, f4⟩ := id hp4
    generalize hJ : skipB s I = J at *
    clear hJ hp4 k4 b3 hr3
    by_cases hlt : J < s.size
    · have hlti : (J : Int) < (s.size : Int) := by omega
      go_upto_region 8 with (go_at_call 48; refine (fail48_no _ p s J 0 x a 2 _ HX.out HP4.out).mono ?_; rintro e w5 ⟨rfl, hp5, k5⟩)
      obtain ⟨_, ⟨y0, y1, y2⟩, y3, y4, y5⟩ := hr4.keptS k5 hpr
      have K5 : Hid (Kept (fun _ => False) w w5) := wb3_kf K4.out k5 (by have := HPE.out; omega)
      clear c0 c1 c2 c3 c4 f1 f2 f3 f4
      obtain ⟨c0, c1, c2, c3, c4, f1, f2, f3, f4⟩ := id hp5
      clear hp5 k5
      go_upto_region 9 with fail
      go_region
      all_goals
        go_wp2
        refine bodyPost_ret (v := .tuple #[.agg #[.int .i64 0, .int .i64 0, .slice none 0 0], .int .i64 x, .int .i64 (a : Int)]) (by simp [results, Tryd.results12, go_sem, y0, y1, y2]) rfl ⟨_, HW.out, ?_, rfl⟩
        exact (kept3 K5.out (Nat.le_refl _) _ _ _).drew
    · have hlti : ¬ (J : Int) < (s.size : Int) := by omega
      obtain ⟨_, ⟨y0, y1, y2⟩, y3, y4, y5⟩ := id hr4
      go_upto_region 9 with fail
      go_region
      all_goals
        go_wp2
        refine bodyPost_ret (v := .tuple #[.agg #[.int .i64 0, .int .i64 0, .slice none 0 0], .int .i64 x, .int .i64 (a : Int)]) (by simp [results, Tryd.results12, go_sem, y0, y1, y2]) rfl ⟨_, HW.out, ?_, rfl⟩
        exact (kept3 K4.out (Nat.le_refl _) _ _ _).drew
  | ok t j =>
    have hP := HQ3.out.2.1
    have hinf := HPS.out.info (by omega) rfl
    have hj : j ≤ s.size := hinf.2.2.1
    have hsk : skipB s j = j := hinf.2.2.2 (by omega)
    have HSK : Hid (skipB s j = j) := hsk
    have HP3 : Hid (Pst w3 p s j 0 0 0) := hP
    clear hP hinf hsk
    go_upto_region 6 with (go_at_call 47; refine (blanks47 _ p s j 0 0 0 HP3.out hj hs).mono ?_; rw [HSK.out]; rintro e w4 ⟨rfl, hp4, k4⟩)
    have HP4 : Hid (Pst w4 p s j 0 0 0) := hp4
    have b4 := b3.keptS k4 hn
    have hr4 := hr3.keptS k4 hpr
    have K4 : Hid (Kept (fun _ => False) w w4) := wb3_kf k1 (HQ3.out.1.trans k4 (fun _ _ e => e)) (by have := HPE.out; omega)
    have HQ4 : Hid (PostR w1 p s 0 0 (.ok t j) (.agg #[.int .i64 o1, .int .i64 n1, .slice a1 l1 e1]) w4) := HQ3.out.on k4 hp4 hpl
    obtain ⟨c0, c1, c2, c3, c4, f1, f2, f3, f4⟩ := id hp4
    clear hp4 k4 b3 hr3
    by_cases hlt : j < s.size
    · have hlti : (j : Int) < (s.size : Int) := by omega
      have HW : Hid (PW s (.err 2 j)) := ⟨_, HPS.out, by simp [hlt]⟩
      go_upto_region 8 with (go_at_call 48; refine (fail48_ok _ p s j 0 0 2 _ HP4.out).mono ?_; rintro e w5 ⟨rfl, hp5, k5⟩)
      obtain ⟨_, ⟨y0, y1, y2⟩, y3, y4, y5⟩ := hr4.keptS k5 hpr
      have K5 : Hid (Kept (fun _ => False) w w5) := wb3_kf K4.out k5 (by have := HPE.out; omega)
      clear c0 c1 c2 c3 c4 f1 f2 f3 f4
      obtain ⟨c0, c1, c2, c3, c4, f1, f2, f3, f4⟩ := id hp5
      clear hp5 k5
      go_upto_region 9 with fail
      go_region
      all_goals
        go_wp2
        refine bodyPost_ret (v := .tuple #[.agg #[.int .i64 0, .int .i64 0, .slice none 0 0], .int .i64 2, .int .i64 (j : Int)]) (by simp [results, Tryd.results12, go_sem, y0, y1, y2]) rfl ⟨_, HW.out, ?_, rfl⟩
        exact (kept3 K5.out (Nat.le_refl _) _ _ _).drew
    · have hlti : ¬ (j : Int) < (s.size : Int) := by omega
      have HW : Hid (PW s (.ok t j)) := ⟨_, HPS.out, by simp [hlt]⟩
      obtain ⟨_, ⟨y0, y1, y2⟩, y3, y4, y5⟩ := id hr4
      obtain ⟨_, ⟨x0, x1, x2⟩, _⟩ := id b4
      go_wp2
      refine bodyPost_ret (v := .tuple #[.agg #[.int .i64 o1, .int .i64 n1, .slice a1 l1 e1], .int .i64 0, .int .i64 0]) (by simp [results, Tryd.results12, go_sem, y0, y1, y2]) rfl ⟨_, HW.out, kept3 K4.out (Nat.le_refl _) _ _ _, _, rfl, ?_⟩
      have hk : Kept (fun k => k = w.heap.size) w4 (((w4.setCell ⟨w.heap.size, 0, none⟩ (.int .i64 o1)).setCell ⟨w.heap.size, 1, none⟩ (.int .i64 n1)).setCell ⟨w.heap.size, 2, none⟩ (.slice a1 l1 e1)) := (((Kept.refl (fun k => k = w.heap.size) w4).setCell (p := ⟨w.heap.size, 0, none⟩) (fun _ => rfl) _).setCell (p := ⟨w.heap.size, 1, none⟩) (fun _ => rfl) _).setCell (p := ⟨w.heap.size, 2, none⟩) (fun _ => rfl) _
      exact HQ4.out.2.2.keep (fun b hb => ⟨by omega, by simpa [World.setCell] using hb.2⟩) (fun b hb => hk.block b hb.2 (fun e => by have := hb.1; omega))
end Go.Proofs.YtdbpdanocpfboaaDoor

/- The law's Same, and its spoil. -/
namespace Go.Proofs.YtdbpdanocpfboaaDoor
open Go.RowKit

def Bx3 (W : World) (b : Nat) (x y z : Value) : Prop := W.cell? ⟨b, 0, none⟩ = some x ∧ W.cell? ⟨b, 1, none⟩ = some y ∧ W.cell? ⟨b, 2, none⟩ = some z
theorem Bx3.kept {W W' : World} {b : Nat} {x y z : Value} (h : Bx3 W b x y z) (hk : Kept (fun _ => False) W W') : Bx3 W' b x y z :=
  ⟨(hk.cell (p := ⟨b, 0, none⟩) (lt_of_cell h.1) (fun f => f)).trans h.1, (hk.cell (p := ⟨b, 1, none⟩) (lt_of_cell h.2.1) (fun f => f)).trans h.2.1, (hk.cell (p := ⟨b, 2, none⟩) (lt_of_cell h.2.2) (fun f => f)).trans h.2.2⟩
theorem FormAt.val {B : Nat} {w : World} {b o : Nat} {op n : Int} {ks : List Tr} (h : FormAt B w b o (.mk op n ks)) : ∃ ka kc, w.cell? ⟨b, o, none⟩ = some (.int .i64 op) ∧ w.cell? ⟨b, o + 1, none⟩ = some (.int .i64 n) ∧ w.cell? ⟨b, o + 2, none⟩ = some (.slice ka ks.length kc) ∧ FormV B w (.agg #[.int .i64 op, .int .i64 n, .slice ka ks.length kc]) (.mk op n ks) := by
  obtain ⟨_, _, h0, h1, ka, kb, ko, kc, h2, hk, hf⟩ := h
  exact ⟨ka, kc, h0, h1, h2, ka, kb, ko, kc, rfl, hk, hf⟩

def Says13 (N : Nat) : Prop := ∀ (t : Tr), t.size ≤ N → N ≤ 268435456 → ∀ (w : World) (B : Nat) (av bv : Value), FormV B w av t → RV B w bv t → B ≤ w.heap.size →
    Calls Tryd.prog 13 #[av, bv] w fun e w' => Kept (fun _ => False) w w' ∧ e = .returned (.bool true)

set_option maxRecDepth 100000 in
set_option maxHeartbeats 8000000 in
theorem same13 : ∀ (N : Nat), Says13 N := by
  intro N
  induction N with
  | zero => intro t ht; have := t.size_pos; omega
  | succ N ih =>
    intro t ht hN w B av bv hA hC hB
    obtain ⟨op, nn, kids⟩ := t
    obtain ⟨a1, b1, p1, c1, rfl, e1, g1⟩ := hA
    obtain ⟨a2, b2, p2, c2, rfl, e2, g2⟩ := hC
    have IH : Hid (Says13 N) := ih
    have E1 : Hid (0 < kids.length → a1 = some ⟨b1, p1, none⟩) := e1
    have E2 : Hid (0 < kids.length → a2 = some ⟨b2, p2, none⟩) := e2
    have G1 : Hid (FormsAt B w b1 p1 kids) := g1
    have G2 : Hid (RsAt B w b2 p2 kids) := g2
    have hsz : Tr.sizes kids ≤ N := by simp only [Tr.size] at ht; omega
    have hkl : kids.length ≤ N := by
      have : ∀ l : List Tr, l.length ≤ Tr.sizes l := by
        intro l
        induction l with
        | nil => simp
        | cons t r ih => have := t.size_pos; simp [Tr.sizes]; omega
      exact Nat.le_trans (this kids) hsz
    clear ih e1 e2 g1 g2 ht
    obtain ⟨W0, hW0⟩ : ∃ W0, W0 = ((w.alloc (.cells #[.int .i64 op, .int .i64 nn, .slice a1 kids.length c1] 24)).alloc (.cells #[.int .i64 op, .int .i64 nn, .slice a2 kids.length c2] 30)) := ⟨_, rfl⟩
    have k0 : Kept (fun _ => False) w W0 := by rw [hW0]; exact ((Kept.refl _ _).alloc _).alloc _
    have x0 : Bx3 W0 w.heap.size (.int .i64 op) (.int .i64 nn) (.slice a1 kids.length c1) := by
      rw [hW0]
      exact ⟨by simp [go_sem], by simp [go_sem], by simp [go_sem]⟩
    have y0 : Bx3 W0 (w.heap.size + 1) (.int .i64 op) (.int .i64 nn) (.slice a2 kids.length c2) := by rw [hW0]; exact ⟨by rw [World.cell?_alloc_at (hn := by simp)]; rfl, by rw [World.cell?_alloc_at (hn := by simp)]; rfl, by rw [World.cell?_alloc_at (hn := by simp)]; rfl⟩
    obtain ⟨x00, x01, x02⟩ := id x0
    obtain ⟨y00, y01, y02⟩ := id y0
    go_enter Tryd.func13, Tryd.ntmps13
    go_upto_region 1 with fail
    rw [← hW0]
    clear hW0
    go_wp2
    go_loopw [5, 6] (fun v5 _ wr => ∃ k : Nat, k ≤ kids.length ∧ v5 = .int .i64 (k : Int) ∧ Kept (fun _ => False) W0 wr) (fun v5 _ _ => kids.length - (intOf v5).toNat)
    case atStart => exact ⟨0, Nat.zero_le _, rfl, Kept.refl _ _⟩
    case round =>
      obtain ⟨k, hk, rfl, hkr⟩ := hrel
      have x1 := x0.kept hkr
      have y1 := y0.kept hkr
      obtain ⟨x10, x11, x12⟩ := id x1
      obtain ⟨y10, y11, y12⟩ := id y1
      clear x00 x01 x02 y00 y01 y02
      have kwr := k0.trans hkr (fun _ _ f => f)
      by_cases hlt : k < kids.length
      · have hlti : (k : Int) < (kids.length : Int) := by omega
        have hnle : ¬ ((kids.length : Int) ≤ (k : Int)) := by omega
        have ea := E1.out (by omega)
        have eb := E2.out (by omega)
        subst ea
        subst eb
        obtain ⟨t', ht'⟩ : ∃ t', kids[k]? = some t' := ⟨kids[k], List.getElem?_eq_getElem hlt⟩
        have hts : t'.size ≤ N := Nat.le_trans (Tr.sizes_mem (List.mem_of_getElem? ht')) hsz
        obtain ⟨o', n', ks'⟩ := t'
        obtain ⟨ka, kc, s0, s1, s2, HFa⟩ := ((FormsAt.below (kwr.below hB (fun _ f => f.elim)) G1.out).get ht').val
        obtain ⟨kb, kd, r0, r1, r2, HFb⟩ := ((RsAt.below (kwr.below hB (fun _ f => f.elim)) G2.out).get ht').val
        have HA : Hid (FormV B wr (.agg #[.int .i64 o', .int .i64 n', .slice ka ks'.length kc]) (.mk o' n' ks')) := HFa
        have HC : Hid (RV B wr (.agg #[.int .i64 o', .int .i64 n', .slice kb ks'.length kd]) (.mk o' n' ks')) := HFb
        have hBr := Nat.le_trans hB kwr.size
        clear HFa HFb ht'
        go_upto_region 6 with fail
        go_region_with (go_at_call 13; refine (IH.out (.mk o' n' ks') hts (by omega) _ B _ _ ?_ ?_ ?_).mono ?_; (exact HA.out.below ((Kept.drew (Kept.refl (fun _ => False) _)).below hBr (fun _ f => f.elim))); (exact HC.out.below ((Kept.drew (Kept.refl (fun _ => False) _)).below hBr (fun _ f => f.elim))); (exact hBr); rintro e w4 ⟨k4, rfl⟩)
        all_goals
          go_wp2
          go_roundw
          case rel => exact ⟨k + 1, by omega, by go_num, hkr.trans (Kept.trans (Kept.drew (Kept.refl _ _)) k4 (fun _ _ f => f)) (fun _ _ f => f)⟩
          case measure => simp [intOf]; omega
      · have hlti : ¬ (k : Int) < (kids.length : Int) := by omega
        go_wp2
        go_ret
        exact ⟨kwr, rfl⟩
end Go.Proofs.YtdbpdanocpfboaaDoor

/- Both readers, for texts of every length. -/
namespace Go.Proofs.YtdbpdanocpfboaaDoor
open Go.RowKit

/-- what a text reads as, also one that is too long -/
def PX (s : ByteArray) (r : PRes) : Prop := (200 < s.size ∧ r = .err 1 0) ∨ (s.size ≤ 200 ∧ PW s r)
theorem PX.det {s : ByteArray} {r r' : PRes} (h : PX s r) (h' : PX s r') : r = r' := by
  rcases h with ⟨h1, rfl⟩ | ⟨h1, h2⟩
  · rcases h' with ⟨_, rfl⟩ | ⟨h3, _⟩
    · rfl
    · omega
  · rcases h' with ⟨h3, _⟩ | ⟨_, h3⟩
    · omega
    · exact h2.det h3
theorem PX.cases {s : ByteArray} {r : PRes} (h : PX s r) : (∃ t j, r = .ok t j ∧ t.well ∧ t.size ≤ 200) ∨ ∃ e a, r = .err e a ∧ e ≠ 0 := by
  rcases h with ⟨_, rfl⟩ | ⟨h1, h2⟩
  · exact .inr ⟨1, 0, rfl, by decide⟩
  · cases r with
    | ok t j => exact .inl ⟨t, j, rfl, h2.info.1, Nat.le_trans h2.info.2 h1⟩
    | err e a =>
      refine .inr ⟨e, a, rfl, ?_⟩
      obtain ⟨q, h3, h4⟩ := h2
      cases q with
      | ok t j =>
        simp only at h4
        split at h4
        · cases h4; decide
        · cases h4
      | err e' a' =>
        cases h4
        have := (h3.err_place (Nat.zero_le _) rfl).1
        omega
def PRes.t : PRes → Tr
  | .ok t _ => t
  | .err _ _ => .mk 0 0 []
def PRes.e : PRes → Int
  | .ok _ _ => 0
  | .err e _ => e
def PRes.a : PRes → Nat
  | .ok _ _ => 0
  | .err _ a => a
theorem PX.size {s : ByteArray} {r : PRes} (h : PX s r) : r.t.size ≤ 200 := by
  rcases h.cases with ⟨t, j, rfl, _, h1⟩ | ⟨e, a, rfl, _⟩
  · exact h1
  · exact (by decide : (Tr.mk 0 0 []).size ≤ 200)
/-- the program's reader -/
theorem parseX (w : World) (s : ByteArray) (hS : TabS w) : Calls Tryd.prog 11 #[.string s] w fun e w' => ∃ r o n a l c, PX s r ∧ e = .returned (.tuple #[.agg #[.int .i64 o, .int .i64 n, .slice a l c], .int .i64 r.e, .int .i64 (r.a : Int)]) ∧ Kept (fun _ => False) w w' ∧ FVS (fun b => w.heap.size ≤ b ∧ b < w'.heap.size) w' (.agg #[.int .i64 o, .int .i64 n, .slice a l c]) r.t := by
  have key : ∀ {r : PRes} {e : Ending} {w' : World}, PX s r → PostU w (fun _ => False) r e w' → ∃ r o n a l c, PX s r ∧ e = .returned (.tuple #[.agg #[.int .i64 o, .int .i64 n, .slice a l c], .int .i64 r.e, .int .i64 (r.a : Int)]) ∧ Kept (fun _ => False) w w' ∧ FVS (fun b => w.heap.size ≤ b ∧ b < w'.heap.size) w' (.agg #[.int .i64 o, .int .i64 n, .slice a l c]) r.t := by
    rintro r e w' hx ⟨hk, h⟩
    cases r with
    | ok t j =>
      obtain ⟨v, rfl, hF⟩ := h
      obtain ⟨o, n, a, l, c, rfl⟩ := hF.agg
      exact ⟨_, o, n, a, l, c, hx, rfl, hk, hF⟩
    | err x a =>
      simp only at h
      subst h
      exact ⟨_, 0, 0, none, 0, 0, hx, rfl, hk, FVS.leaf _ _ _ _⟩
  rcases Nat.lt_or_ge 200 s.size with hl | hl
  · refine (parse11_long w s hl).mono ?_
    intro e w' h
    exact key (.inl ⟨hl, rfl⟩) h
  · refine (parse11 w s hl hS).mono ?_
    rintro e w' ⟨r, h1, h2⟩
    exact key (.inr ⟨hl, h1⟩) h2
/-- the reference's reader -/
theorem rparseX (w : World) (s : ByteArray) : Calls Tryd.prog 12 #[.string s] w fun e w' => ∃ r o n a l c, PX s r ∧ e = .returned (.tuple #[.agg #[.int .i64 o, .int .i64 n, .slice a l c], .int .i64 r.e, .int .i64 (r.a : Int)]) ∧ Kept (fun _ => False) w w' ∧ RVS (fun b => w.heap.size ≤ b ∧ b < w'.heap.size) w' (.agg #[.int .i64 o, .int .i64 n, .slice a l c]) r.t := by
  have key : ∀ {r : PRes} {e : Ending} {w' : World}, PX s r → PostW w r e w' → ∃ r o n a l c, PX s r ∧ e = .returned (.tuple #[.agg #[.int .i64 o, .int .i64 n, .slice a l c], .int .i64 r.e, .int .i64 (r.a : Int)]) ∧ Kept (fun _ => False) w w' ∧ RVS (fun b => w.heap.size ≤ b ∧ b < w'.heap.size) w' (.agg #[.int .i64 o, .int .i64 n, .slice a l c]) r.t := by
    rintro r e w' hx ⟨hk, h⟩
    cases r with
    | ok t j =>
      obtain ⟨v, rfl, hF⟩ := h
      obtain ⟨o, n, a, l, c, rfl⟩ := hF.agg
      exact ⟨_, o, n, a, l, c, hx, rfl, hk, hF⟩
    | err x a =>
      simp only at h
      subst h
      exact ⟨_, 0, 0, none, 0, 0, hx, rfl, hk, RVS.leaf _ _ _ _⟩
  rcases Nat.lt_or_ge 200 s.size with hl | hl
  · refine (rparse12_long w s hl).mono ?_
    intro e w' h
    exact key (.inl ⟨hl, rfl⟩) h
  · refine (rparse12 w s hl).mono ?_
    rintro e w' ⟨r, h1, h2⟩
    exact key (.inr ⟨hl, h1⟩) h2
end Go.Proofs.YtdbpdanocpfboaaDoor
