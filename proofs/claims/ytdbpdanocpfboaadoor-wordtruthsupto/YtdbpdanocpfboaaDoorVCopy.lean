/- The law's helper that copies a formula. -/
import Derived.Test.YtdbpdanocpfboaaDoorVOf
import Derived.Test.YtdbpdanocpfboaaDoorVQk
import Derived.Test.YtdbpdanocpfboaaDoorVTi
namespace Go.Proofs.YtdbpdanocpfboaaDoor
open Go.RowKit

mutual
/-- the Form that lies at (b, o) reads as t; all of it below block B; to be read alone -/
def RAt (B : Nat) (w : World) (b o : Nat) : Tr → Prop
  | .mk op n kids => b < B ∧ w.cell? ⟨b, o, none⟩ = some (.int .i64 op) ∧ w.cell? ⟨b, o + 1, none⟩ = some (.int .i64 n) ∧
      ∃ ka kb ko kc, w.cell? ⟨b, o + 2, none⟩ = some (.slice ka kids.length kc) ∧ (0 < kids.length → ka = some ⟨kb, ko, none⟩) ∧ RsAt B w kb ko kids
def RsAt (B : Nat) (w : World) (b o : Nat) : List Tr → Prop
  | [] => True
  | t :: r => RAt B w b o t ∧ RsAt B w b (o + 3) r
end
mutual
theorem RAt.below {B : Nat} {w w' : World} (hb : Below B w w') {b o : Nat} : ∀ {t : Tr}, RAt B w b o t → RAt B w' b o t
  | .mk op n kids, h => by
    obtain ⟨hB, h0, h1, ka, kb, ko, kc, h2, hk, hf⟩ := h
    exact ⟨hB, (hb.cell (p := ⟨b, o, none⟩) hB).trans h0, (hb.cell (p := ⟨b, o + 1, none⟩) hB).trans h1, ka, kb, ko, kc, (hb.cell (p := ⟨b, o + 2, none⟩) hB).trans h2, hk, RsAt.below hb hf⟩
theorem RsAt.below {B : Nat} {w w' : World} (hb : Below B w w') {b o : Nat} : ∀ {l : List Tr}, RsAt B w b o l → RsAt B w' b o l
  | [], _ => trivial
  | _ :: _, h => ⟨RAt.below hb h.1, RsAt.below hb h.2⟩
end
theorem RsAt.get {B : Nat} {w : World} : ∀ {l : List Tr} {b o j : Nat} {t : Tr}, RsAt B w b o l → l[j]? = some t → RAt B w b (o + j * 3) t
  | x :: r, b, o, 0, t, h, e => by simp at e; subst e; simpa using h.1
  | x :: r, b, o, j + 1, t, h, e => by
    have := RsAt.get (j := j) h.2 (by simpa using e)
    have e2 : o + 3 + j * 3 = o + (j + 1) * 3 := by omega
    rwa [e2] at this
/-- the value v is the Form t, to be read alone -/
def RV (B : Nat) (w : World) (v : Value) : Tr → Prop
  | .mk op n kids => ∃ ka kb ko kc, v = .agg #[.int .i64 op, .int .i64 n, .slice ka kids.length kc] ∧ (0 < kids.length → ka = some ⟨kb, ko, none⟩) ∧ RsAt B w kb ko kids
theorem RV.below {B : Nat} {w w' : World} {v : Value} {t : Tr} (h : RV B w v t) (hb : Below B w w') : RV B w' v t := by
  cases t with
  | mk op n kids =>
    obtain ⟨ka, kb, ko, kc, e, h1, h2⟩ := h
    exact ⟨ka, kb, ko, kc, e, h1, RsAt.below hb h2⟩

mutual
/-- the Form that lies at (b, o) reads as t; all of it in blocks of S -/
def FS (S : Nat → Prop) (w : World) (b o : Nat) : Tr → Prop
  | .mk op n kids => S b ∧ PlainB w b ∧ w.cell? ⟨b, o, none⟩ = some (.int .i64 op) ∧ w.cell? ⟨b, o + 1, none⟩ = some (.int .i64 n) ∧
      ∃ ka kb ko kc, w.cell? ⟨b, o + 2, none⟩ = some (.slice ka kids.length kc) ∧ (0 < kids.length → ka = some ⟨kb, ko, none⟩) ∧ FsS S w kb ko kids
def FsS (S : Nat → Prop) (w : World) (b o : Nat) : List Tr → Prop
  | [] => True
  | t :: r => FS S w b o t ∧ FsS S w b (o + 3) r
end
mutual
theorem FS.keep {S S' : Nat → Prop} {w w' : World} (hs : ∀ b, S b → S' b) (hb : ∀ b, S b → w'.heap[b]? = w.heap[b]?) {b o : Nat} : ∀ {t : Tr}, FS S w b o t → FS S' w' b o t
  | .mk op n kids, h => by
    obtain ⟨hB, hp, h0, h1, ka, kb, ko, kc, h2, hk, hf⟩ := h
    exact ⟨hs b hB, hp.of_block (hb b hB), (World.cell?_of_block (w := w) (a := ⟨b, o, none⟩) (hb b hB)).trans h0, (World.cell?_of_block (w := w) (a := ⟨b, o + 1, none⟩) (hb b hB)).trans h1, ka, kb, ko, kc, (World.cell?_of_block (w := w) (a := ⟨b, o + 2, none⟩) (hb b hB)).trans h2, hk, FsS.keep hs hb hf⟩
theorem FsS.keep {S S' : Nat → Prop} {w w' : World} (hs : ∀ b, S b → S' b) (hb : ∀ b, S b → w'.heap[b]? = w.heap[b]?) {b o : Nat} : ∀ {l : List Tr}, FsS S w b o l → FsS S' w' b o l
  | [], _ => trivial
  | _ :: _, h => ⟨FS.keep hs hb h.1, FsS.keep hs hb h.2⟩
end
mutual
theorem FS.form {S : Nat → Prop} {B : Nat} {w : World} (hs : ∀ b, S b → b < B) {b o : Nat} : ∀ {t : Tr}, FS S w b o t → FormAt B w b o t
  | .mk op n kids, h => by
    obtain ⟨hB, hp, h0, h1, ka, kb, ko, kc, h2, hk, hf⟩ := h
    exact ⟨hs b hB, hp, h0, h1, ka, kb, ko, kc, h2, hk, FsS.form hs hf⟩
theorem FsS.form {S : Nat → Prop} {B : Nat} {w : World} (hs : ∀ b, S b → b < B) {b o : Nat} : ∀ {l : List Tr}, FsS S w b o l → FormsAt B w b o l
  | [], _ => trivial
  | _ :: _, h => ⟨FS.form hs h.1, FsS.form hs h.2⟩
end
/-- the value v is the Form t, all of it in blocks of S -/
def FVS (S : Nat → Prop) (w : World) (v : Value) : Tr → Prop
  | .mk op n kids => ∃ ka kb ko kc, v = .agg #[.int .i64 op, .int .i64 n, .slice ka kids.length kc] ∧ (0 < kids.length → ka = some ⟨kb, ko, none⟩) ∧ FsS S w kb ko kids
theorem FVS.form {S : Nat → Prop} {B : Nat} {w : World} (hs : ∀ b, S b → b < B) {v : Value} {t : Tr} (h : FVS S w v t) : FormV B w v t := by
  cases t with
  | mk op n kids =>
    obtain ⟨ka, kb, ko, kc, e, h1, h2⟩ := h
    exact ⟨ka, kb, ko, kc, e, h1, FsS.form hs h2⟩

/-- the cells of a row of Forms -/
def FlatF (S : Nat → Prop) (W : World) : List Value → List Tr → Prop
  | cs, [] => cs = []
  | cs, .mk op n ks :: r => ∃ ka kb ko kc rest, cs = .int .i64 op :: .int .i64 n :: .slice ka ks.length kc :: rest ∧ (0 < ks.length → ka = some ⟨kb, ko, none⟩) ∧ FsS S W kb ko ks ∧ FlatF S W rest r
theorem FlatF.keep {S S' : Nat → Prop} {W W' : World} (hs : ∀ b, S b → S' b) (hb : ∀ b, S b → W'.heap[b]? = W.heap[b]?) : ∀ {l : List Tr} {cs : List Value}, FlatF S W cs l → FlatF S' W' cs l
  | [], _, h => h
  | .mk op n ks :: r, _, h => by
    obtain ⟨ka, kb, ko, kc, rest, e, h1, h2, h3⟩ := h
    exact ⟨ka, kb, ko, kc, rest, e, h1, FsS.keep hs hb h2, h3.keep hs hb⟩
theorem FlatF.snoc {S : Nat → Prop} {W : World} {op n : Int} {ks : List Tr} {ka : Option Addr} {kb ko kc : Nat} (h1 : 0 < ks.length → ka = some ⟨kb, ko, none⟩) (h2 : FsS S W kb ko ks) : ∀ {l : List Tr} {cs : List Value}, FlatF S W cs l → FlatF S W (cs ++ [.int .i64 op, .int .i64 n, .slice ka ks.length kc]) (l ++ [.mk op n ks])
  | [], _, h => by
    obtain rfl := h
    exact ⟨ka, kb, ko, kc, [], rfl, h1, h2, rfl⟩
  | .mk op' n' ks' :: r, _, h => by
    obtain ⟨ka', kb', ko', kc', rest, rfl, g1, g2, g3⟩ := h
    exact ⟨ka', kb', ko', kc', _, rfl, g1, g2, FlatF.snoc h1 h2 g3⟩
theorem FlatF.forms {S : Nat → Prop} {W : World} {g : Nat} (hg : S g) (hp : PlainB W g) : ∀ {l : List Tr} {cs : List Value} {o : Nat}, FlatF S W cs l → (∀ i u, cs[i]? = some u → W.cell? ⟨g, o + i, none⟩ = some u) → FsS S W g o l
  | [], _, _, _, _ => trivial
  | .mk op n ks :: r, _, o, h, hc => by
    obtain ⟨ka, kb, ko, kc, rest, rfl, h1, h2, h3⟩ := h
    refine ⟨⟨hg, hp, by simpa using hc 0 _ rfl, by simpa using hc 1 _ rfl, ka, kb, ko, kc, by simpa using hc 2 _ rfl, h1, h2⟩, FlatF.forms hg hp h3 (fun i u hi => ?_)⟩
    have := hc (i + 3) u (by simpa using hi)
    rwa [show o + (i + 3) = o + 3 + i by omega] at this
theorem own_cells {w : World} {base g cap n : Nat} {e : TypeId} {size : Nat} {xs : List Value} (h : w.ownsRow base e size (.slice (some ⟨g, 0, none⟩) n cap) n xs) : PlainB w g ∧ g < w.heap.size ∧ ∀ i u, xs[i]? = some u → w.cell? ⟨g, 0 + i, none⟩ = some u := by
  obtain ⟨h1, h2⟩ := h
  rcases h2 with ⟨e, _⟩ | ⟨g', cap', cur, e, hb, hh, hc, hc2, hs, ht⟩
  · cases e
  · cases e
    refine ⟨⟨_, _, hh⟩, (Array.getElem?_eq_some_iff.1 hh).1, fun i u hi => ?_⟩
    have hl := (List.getElem?_eq_some_iff.1 hi).1
    rw [← ht, List.getElem?_take_of_lt (by omega)] at hi
    have h4 : cur[i]? = some u := by simpa using hi
    simp [World.cell?, hh, h4]

theorem info24 : (Tryd.prog.info? 24).map (fun i => (i.zero, i.size, i.bytes)) = some (some (.agg #[.int .i64 0, .int .i64 0, .slice none 0 0]), 3, 40) := by kernel_rfl

set_option maxRecDepth 100000 in
set_option maxHeartbeats 2000000 in
theorem given19 : ∀ (N : Nat) (t : Tr), t.size ≤ N → N ≤ 268435456 → ∀ (w : World) (B : Nat) (v : Value), RV B w v t → B ≤ w.heap.size →
    Calls Tryd.prog 19 #[v] w fun e w' => ∃ v', e = .returned v' ∧ Kept (fun _ => False) w w' ∧ FVS (fun b => w.heap.size ≤ b ∧ b < w'.heap.size) w' v' t := by
  intro N
  induction N with
  | zero => intro t ht; have := t.size_pos; omega
  | succ N ih =>
    intro t ht hN w B v hv hB
    obtain ⟨op, n, kids⟩ := t
    obtain ⟨ka, kb, ko, kc, rfl, hka, hks⟩ := hv
    obtain ⟨i0, hi, hz0, hz1, hz2⟩ := info_parts info24
    have IH : Hid (∀ (t : Tr), t.size ≤ N → N ≤ 268435456 → ∀ (w : World) (B : Nat) (v : Value), RV B w v t → B ≤ w.heap.size → Calls Tryd.prog 19 #[v] w fun e w' => ∃ v', e = .returned v' ∧ Kept (fun _ => False) w w' ∧ FVS (fun b => w.heap.size ≤ b ∧ b < w'.heap.size) w' v' t) := ih
    clear ih
    have hsz : Tr.sizes kids ≤ N := by simp only [Tr.size] at ht; omega
    have hkl : kids.length ≤ N := by
      have : ∀ l : List Tr, l.length ≤ Tr.sizes l := by
        intro l
        induction l with
        | nil => simp
        | cons t r ih => have := t.size_pos; simp [Tr.sizes]; omega
      exact Nat.le_trans (this kids) hsz
    obtain ⟨w1, hw1⟩ : ∃ w1, w1 = ((w.alloc (.cells #[.int .i64 op, .int .i64 n, .slice ka kids.length kc] 30)).alloc (.cells #[.int .i64 0, .int .i64 0, .slice none 0 0] 24)) := ⟨_, rfl⟩
    have k1 : Kept (fun _ => False) w w1 := by rw [hw1]; exact ((Kept.refl _ _).alloc _).alloc _
    have c0 : w1.cell? ⟨w.heap.size, 0, none⟩ = some (.int .i64 op) := by rw [hw1]; simp [go_sem]
    have c1 : w1.cell? ⟨w.heap.size, 1, none⟩ = some (.int .i64 n) := by rw [hw1]; simp [go_sem]
    have c2 : w1.cell? ⟨w.heap.size, 2, none⟩ = some (.slice ka kids.length kc) := by rw [hw1]; simp [go_sem]
    have r0 : w1.cell? ⟨w.heap.size + 1, 0, none⟩ = some (.int .i64 0) := by rw [hw1, World.cell?_alloc_at (hn := by simp)]; rfl
    have r1 : w1.cell? ⟨w.heap.size + 1, 1, none⟩ = some (.int .i64 0) := by rw [hw1, World.cell?_alloc_at (hn := by simp)]; rfl
    have r2 : w1.cell? ⟨w.heap.size + 1, 2, none⟩ = some (.slice none 0 0) := by rw [hw1, World.cell?_alloc_at (hn := by simp)]; rfl
    have fr : ∀ i, w1.frozen? ⟨w.heap.size + 1, i, none⟩ = false := fun i => by rw [hw1, World.frozen?_alloc_at (hn := by simp)]
    go_enter Tryd.func19, Tryd.ntmps19
    go_upto_region 1 with fail
    rw [← hw1]
    clear hw1
    have hl1 : w.heap.size + 1 < w1.heap.size := lt_of_cell r0
    have HKS : Hid (RsAt B w1 kb ko kids) := RsAt.below (k1.below hB (fun _ f => f.elim)) hks
    have hB1 := Nat.le_trans hB k1.size
    clear hks
    go_wp2
    go_loopw [3, 4, 5] (fun v3 v4 _ wr => ∃ k cs, k ≤ kids.length ∧ v4 = .int .i64 (k : Int) ∧ Kept (fun _ => False) w1 wr ∧ wr.ownsRow w1.heap.size 24 3 v3 k cs ∧ FlatF (fun b => w1.heap.size ≤ b ∧ b < wr.heap.size ∧ some b ≠ v3.ownBlock) wr cs (kids.take k)) (fun _ v4 _ _ => kids.length - (intOf v4).toNat)
    case atStart => exact ⟨0, [], Nat.zero_le _, rfl, Kept.refl _ _, ⟨rfl, .inl ⟨rfl, rfl⟩⟩, by simp [FlatF]⟩
    case round =>
      obtain ⟨k, cs, hk, rfl, hkr, hown, hfl⟩ := hrel
      have HOWN : Hid (wr.ownsRow w1.heap.size 24 3 u3 k cs) := hown
      have HFL : Hid (FlatF (fun b => w1.heap.size ≤ b ∧ b < wr.heap.size ∧ some b ≠ u3.ownBlock) wr cs (kids.take k)) := hfl
      have d0 := (hkr.cell (lt_of_cell c0) (fun f => f)).trans c0
      have d1 := (hkr.cell (lt_of_cell c1) (fun f => f)).trans c1
      have d2 := (hkr.cell (lt_of_cell c2) (fun f => f)).trans c2
      clear hown hfl
      by_cases hlt : k < kids.length
      · have hlti : (k : Int) < (kids.length : Int) := by omega
        have hka' := hka (by omega)
        subst hka'
        have HK : Hid (RAt B wr kb (ko + k * 3) kids[k]) := (RsAt.below (hkr.below hB1 (fun _ f => f.elim)) HKS.out).get (List.getElem?_eq_getElem hlt)
        obtain ⟨t', ht'⟩ : ∃ t', kids[k] = t' := ⟨_, rfl⟩
        have HTK : Hid (kids.take (k + 1) = kids.take k ++ [t']) := by rw [Hid, List.take_add_one, List.getElem?_eq_getElem hlt, ht']; rfl
        have hts : t'.size ≤ N := Nat.le_trans (Tr.sizes_mem (by rw [← ht']; exact List.getElem_mem hlt)) hsz
        rw [ht'] at HK
        clear ht'
        obtain ⟨op', n', ks'⟩ := t'
        obtain ⟨hbB, g0, g1, ka', kb', ko', kc', g2, hka', hks'⟩ := HK.out
        have HRV : Hid (RV B wr (.agg #[.int .i64 op', .int .i64 n', .slice ka' ks'.length kc']) (.mk op' n' ks')) := ⟨ka', kb', ko', kc', rfl, hka', hks'⟩
        have hBr := Nat.le_trans hB1 hkr.size
        clear HK hka' hks'
        go_upto_region 6 with (go_at_call 19; refine (IH.out (.mk op' n' ks') hts (by omega) _ B _ HRV.out hBr).mono ?_; rintro e w3 ⟨v', rfl, hk3, hF3⟩; obtain ⟨ka2, kb2, ko2, kc2, rfl, hka2, hks2⟩ := hF3)
        obtain ⟨W4, hW4⟩ : ∃ W4, W4 = w3.alloc (.cells #[.int .i64 op', .int .i64 n', .slice ka2 ks'.length kc2] 24) := ⟨_, rfl⟩
        have k4 : Kept (fun _ => False) w3 W4 := by rw [hW4]; exact (Kept.refl _ _).alloc _
        have m0 : W4.cell? ⟨w3.heap.size, 0, none⟩ = some (.int .i64 op') := by rw [hW4]; simp
        have m1 : W4.cell? ⟨w3.heap.size, 1, none⟩ = some (.int .i64 n') := by rw [hW4]; simp
        have m2 : W4.cell? ⟨w3.heap.size, 2, none⟩ = some (.slice ka2 ks'.length kc2) := by rw [hW4]; simp
        rw [← hW4]
        clear hW4
        have kr4 := hk3.trans k4 (fun _ _ f => f)
        have k14 := hkr.trans kr4 (fun _ _ f => f)
        have OWN4 : Hid (W4.ownsRow w1.heap.size 24 3 u3 k cs) := ownsRow_of_block HOWN.out (fun q hq => kr4.block q (ownsRow_lt HOWN.out hq).1 (fun f => f))
        have FL4 : Hid (FlatF (fun b => w1.heap.size ≤ b ∧ b < W4.heap.size ∧ some b ≠ u3.ownBlock) W4 (cs ++ [.int .i64 op', .int .i64 n', .slice ka2 ks'.length kc2]) (kids.take (k + 1))) := by
          rw [Hid, HTK.out]
          have hrs := hkr.size
          have h3s := hk3.size
          have h4s := k4.size
          refine FlatF.snoc hka2 (FsS.keep (fun b hb => ⟨by omega, by omega, fun e => ?_⟩) (fun b hb => k4.block b hb.2 (fun f => f)) hks2) (FlatF.keep (fun b hb => ⟨hb.1, by have := kr4.size; omega, hb.2.2⟩) (fun b hb => kr4.block b hb.2.1 (fun f => f)) HFL.out)
          have := (ownsRow_lt HOWN.out e).1
          omega
        clear HFL HOWN d0 d1 d2 HRV g0 g1 g2 hks2 hka2
        go_wp2_with (at_builtin; refine wpList_append_own_at _ rfl _ _ 22 rfl w1.heap.size 24 i0 _ 3 40 Tryd.underlying22 hi hz0 hz1 hz2 rfl (by decide) u3 k cs rfl (OWN4.out.alloc _) ⟨W4.heap.size, 0, none⟩ 1 1 [.int .i64 op', .int .i64 n', .slice ka2 ks'.length kc2] rfl rfl ?c1 ?c2 ?c3 ?c4 ?c5 ?_; rotate_left 5; intro v' w5 own5 gr5 _ ob5)
        case c1 =>
          intro j u hu
          match j with
          | 0 => simp only [List.getElem?_cons_zero, Option.some.injEq] at hu; subst hu; simp [Addr.add]
          | 1 => simp only [List.getElem?_cons_succ, List.getElem?_cons_zero, Option.some.injEq] at hu; subst hu; simp [Addr.add]
          | 2 => simp only [List.getElem?_cons_succ, List.getElem?_cons_zero, Option.some.injEq] at hu; subst hu; simp [Addr.add]
          | j + 3 => simp at hu
        case c2 => intro u hu; simp only [List.mem_cons, List.not_mem_nil, or_false] at hu; rcases hu with rfl | rfl | rfl <;> rfl
        case c3 => unfold maxLen; omega
        case c4 => omega
        case c5 => simp; exact Nat.le_trans k14.size (Nat.le_succ _)
        go_roundw
        case rel =>
          refine ⟨k + 1, _, by omega, by go_num, ?_, own5, ?_⟩
          · exact (k14.alloc _).grown gr5 (fun q h1 h2 => by have := (ownsRow_lt OWN4.out h2).2; omega)
          · have hs5 : W4.heap.size ≤ w5.heap.size := Nat.le_trans (by simp) gr5.size
            have hne : ∀ b, (w1.heap.size ≤ b ∧ b < W4.heap.size ∧ some b ≠ u3.ownBlock) → some b ≠ v'.ownBlock := fun b hb e => by
              rcases ob5 with o | o
              · exact hb.2.2 (by rw [e, o])
              · rw [o] at e
                have e' := Option.some.inj e
                simp at e'
                omega
            refine FlatF.keep (fun b hb => ⟨hb.1, by omega, hne b hb⟩) (fun b hb => ?_) FL4.out
            rw [gr5.block b (by simp; omega) (fun e => hb.2.2 e)]
            exact Below.heap_alloc _ _ _ hb.2.1
        case measure => simp [intOf]; omega
      · have hlti : ¬ (k : Int) < (kids.length : Int) := by omega
        have hkk : k = kids.length := by omega
        subst hkk
        have q0 := (hkr.cell (lt_of_cell r0) (fun f => f)).trans r0
        have q1 := (hkr.cell (lt_of_cell r1) (fun f => f)).trans r1
        have q2 := (hkr.cell (lt_of_cell r2) (fun f => f)).trans r2
        have f0 := (hkr.frozen (lt_of_cell r0) (fun f => f)).trans (fr 0)
        have f1 := (hkr.frozen (lt_of_cell r1) (fun f => f)).trans (fr 1)
        have f2 := (hkr.frozen (lt_of_cell r2) (fun f => f)).trans (fr 2)
        rw [List.take_length] at HFL
        have k1r := k1.trans hkr (fun _ _ f => f)
        have hs1 := k1.size
        obtain ⟨va, vc, hv3, hfs⟩ : ∃ va vc, u3 = .slice va kids.length vc ∧ ∃ vb vo, (0 < kids.length → va = some ⟨vb, vo, none⟩) ∧ FsS (fun b => w1.heap.size ≤ b ∧ b < wr.heap.size) wr vb vo kids := by
          rcases id HOWN.out.2 with ⟨e, e0⟩ | ⟨g, cap, cur, e, hb, hh, _⟩
          · have : kids = [] := List.length_eq_zero_iff.1 e0
            subst this
            exact ⟨none, 0, e, 0, 0, by simp, trivial⟩
          · refine ⟨some ⟨g, 0, none⟩, cap, e, g, 0, fun _ => rfl, ?_⟩
            have hown := HOWN.out
            rw [e] at hown
            obtain ⟨p1, p2, p3⟩ := own_cells hown
            exact FlatF.forms (S := fun b => w1.heap.size ≤ b ∧ b < wr.heap.size) ⟨hb, p2⟩ p1 (FlatF.keep (fun b hb => ⟨hb.1, hb.2.1⟩) (fun _ _ => rfl) HFL.out) p3
        subst hv3
        obtain ⟨vb, vo, hva, hfs⟩ := hfs
        have HFS : Hid (FsS (fun b => w1.heap.size ≤ b ∧ b < wr.heap.size) wr vb vo kids) := hfs
        have HVA : Hid (0 < kids.length → va = some ⟨vb, vo, none⟩) := hva
        clear hfs hva HOWN HFL hka
        go_wp2
        refine bodyPost_ret (v := .agg #[.int .i64 op, .int .i64 n, .slice va kids.length vc]) (by simp [results, Tryd.results19, go_sem, q0, q1, q2]) rfl ⟨_, rfl, ?_, ⟨va, vb, vo, vc, rfl, HVA.out, ?_⟩⟩
        · exact ((k1r.setCell (fun hh => absurd hh (by simp)) _).setCell (fun hh => absurd hh (by simp)) _).setCell (fun hh => absurd hh (by simp)) _
        · refine FsS.keep (fun b hb => ⟨by omega, by simp [World.setCell]; omega⟩) (fun b hb => ?_) HFS.out
          have hne : b ≠ w.heap.size + 1 := by omega
          rw [Below.heap_setCell _ _ _ _ hne, Below.heap_setCell _ _ _ _ hne, Below.heap_setCell _ _ _ _ hne]
end Go.Proofs.YtdbpdanocpfboaaDoor
