import Derived.Test.YtdbpdanocpfboaaDoorZRsm
import Derived.Test.YtdbpdanocpfboaaDoorZSiz
import Derived.Test.YtdbpdanocpfboaaDoorZBun01
import Derived.Test.YtdbpdanocpfboaaDoorZWalk
import Derived.Test.YtdbpdanocpfboaaDoorZBun10
/- The document's own answer: a Form's number in a list. -/
namespace Go.Proofs.YtdbpdanocpfboaaDoor
open Go.RowKit

/-- a list of Forms to be read alone -/
def RLV (B : Nat) (w : World) (v : Value) (ts : List Tr) : Prop := ∃ a b o c, v = .slice a ts.length c ∧ (0 < ts.length → a = some ⟨b, o, none⟩) ∧ RsAt B w b o ts

set_option maxRecDepth 100000 in
set_option maxHeartbeats 8000000 in
theorem find92 (w : World) (B : Nat) (lv fv : Value) (ts : List Tr) (t : Tr) (hL : RLV B w lv ts) (hF : RV B w fv t) (hB : B ≤ w.heap.size) (hs : ∀ u ∈ ts, u.size ≤ 268435456) (hn : ts.length ≤ 268435456) :
    Calls Tryd.prog 92 #[lv, fv] w fun e w' => Kept (fun _ => False) w w' ∧ ∃ r : Int, e = .returned (.int .i64 r) ∧ ((r < 0 ∧ t ∉ ts) ∨ (0 ≤ r ∧ t ∈ ts)) := by
  obtain ⟨f0, f1, fa, fl, fc, rfl⟩ := hF.agg
  obtain ⟨a, b, o, c, rfl, ha, hts⟩ := hL
  obtain ⟨W0, hW0⟩ : ∃ W0, W0 = w.alloc (.cells #[.int .i64 f0, .int .i64 f1, .slice fa fl fc] 30) := ⟨_, rfl⟩
  have k0 : Kept (fun _ => False) w W0 := by rw [hW0]; exact (Kept.refl _ _).alloc _
  have x0 : Wb3 W0 w.heap.size (.int .i64 f0) (.int .i64 f1) (.slice fa fl fc) := by rw [hW0]; exact Wb3.new w _ _ _ 30
  have X0 : Hid (Wb3 W0 w.heap.size (.int .i64 f0) (.int .i64 f1) (.slice fa fl fc)) := x0
  have K0 : Hid (Kept (fun _ => False) w W0) := k0
  have HF : Hid (RV B w (.agg #[.int .i64 f0, .int .i64 f1, .slice fa fl fc]) t) := hF
  have HA : Hid (0 < ts.length → a = some ⟨b, o, none⟩) := ha
  have HTS : Hid (RsAt B w b o ts) := hts
  have HS : Hid (∀ u ∈ ts, u.size ≤ 268435456) := hs
  clear hF ha hts k0 x0 hs
  go_enter Tryd.func92, Tryd.ntmps92
  go_upto_region 1 with fail
  rw [← hW0]
  clear hW0
  go_wp2
  go_loopw [4, 5, 6] (fun _ v5 _ wr => ∃ k : Nat, k ≤ ts.length ∧ v5 = .int .i64 (k : Int) ∧ Kept (fun _ => False) W0 wr ∧ ∀ j (g : j < ts.length), j < k → ts[j] ≠ t) (fun _ v5 _ _ => ts.length - (intOf v5).toNat)
  case atStart => exact ⟨0, Nat.zero_le _, rfl, Kept.refl _ _, fun j _ h => absurd h (by omega)⟩
  case round =>
    obtain ⟨k, hk, rfl, hkr, hall⟩ := hrel
    have HALL : Hid (∀ j (g : j < ts.length), j < k → ts[j] ≠ t) := hall
    clear hall
    obtain ⟨_, ⟨x10, x11, x12⟩, _⟩ := X0.out.kept hkr
    have kwr := K0.out.trans hkr (fun _ _ f => f)
    by_cases hlt : k < ts.length
    · have hlti : (k : Int) < (ts.length : Int) := by omega
      have hnle : ¬ ((ts.length : Int) ≤ (k : Int)) := by omega
      have ea := HA.out (by omega)
      subst ea
      obtain ⟨u1, hu1⟩ : ∃ t1, ts[k] = t1 := ⟨_, rfl⟩
      have hus : u1.size ≤ 268435456 := HS.out u1 (by rw [← hu1]; exact List.getElem_mem hlt)
      have hg1 := (RsAt.below (kwr.below hB (fun _ f => f.elim)) HTS.out).get (List.getElem?_eq_getElem hlt)
      rw [hu1] at hg1
      have HU1 : Hid (ts[k] = u1) := hu1
      clear hu1
      obtain ⟨o3, n3, ks3⟩ := u1
      obtain ⟨ka, kc, s0, s1, s2, hFa⟩ := hg1.val
      have HAv : Hid (RV B wr (.agg #[.int .i64 o3, .int .i64 n3, .slice ka ks3.length kc]) (.mk o3 n3 ks3)) := hFa
      have HFr : Hid (RV B wr (.agg #[.int .i64 f0, .int .i64 f1, .slice fa fl fc]) t) := HF.out.below (kwr.below hB (fun _ f => f.elim))
      have hBr := Nat.le_trans hB kwr.size
      clear hFa hg1
      obtain ⟨cb, hcb⟩ : ∃ cb, sameT (.mk o3 n3 ks3) t = cb := ⟨_, rfl⟩
      have HCB : Hid (sameT (.mk o3 n3 ks3) t = cb) := hcb
      clear hcb
      go_upto_region 4 with fail
      cases cb with
      | false =>
        go_region_with (go_at_call 130; refine (same130 268435456 (.mk o3 n3 ks3) t hus (by omega) _ B _ _ ?_ ?_ ?_).mono ?_; (exact HAv.out.below ((Kept.drew (Kept.refl (fun _ => False) _)).below hBr (fun _ f => f.elim))); (exact HFr.out.below ((Kept.drew (Kept.refl (fun _ => False) _)).below hBr (fun _ f => f.elim))); (exact hBr); rintro e w4 ⟨k4, rfl⟩; rw [HCB.out])
        all_goals
          go_wp2
          go_roundw
          case rel => exact ⟨k + 1, by omega, by go_num, hkr.trans (Kept.trans (Kept.drew (Kept.refl _ _)) k4 (fun _ _ f => f)) (fun _ _ f => f), fun j g hj => by
            rcases Nat.lt_succ_iff_lt_or_eq.1 hj with h | rfl
            · exact HALL.out j g h
            · intro e
              rw [HU1.out] at e
              have h := HCB.out
              rw [(sameT_iff _ _).2 e] at h
              cases h⟩
          case measure => simp [intOf]; omega
      | true =>
        have HIN : Hid (t ∈ ts) := by
          rw [Hid, ← (sameT_iff _ _).1 HCB.out, ← HU1.out]
          exact List.getElem_mem hlt
        go_region_with (go_at_call 130; refine (same130 268435456 (.mk o3 n3 ks3) t hus (by omega) _ B _ _ ?_ ?_ ?_).mono ?_; (exact HAv.out.below ((Kept.drew (Kept.refl (fun _ => False) _)).below hBr (fun _ f => f.elim))); (exact HFr.out.below ((Kept.drew (Kept.refl (fun _ => False) _)).below hBr (fun _ f => f.elim))); (exact hBr); rintro e w4 ⟨k4, rfl⟩; rw [HCB.out])
        all_goals
          go_wp2
          go_ret
          exact ⟨kwr.trans (Kept.trans (Kept.drew (Kept.refl _ _)) k4 (fun _ _ f => f)) (fun _ _ f => f), _, rfl, .inr ⟨by omega, HIN.out⟩⟩
    · have hlti : ¬ (k : Int) < (ts.length : Int) := by omega
      have HNO : Hid (t ∉ ts) := fun h => by
        obtain ⟨j, hj, e⟩ := List.getElem_of_mem h
        exact HALL.out j hj (by omega) e
      go_wp2
      go_ret
      exact ⟨kwr, _, rfl, .inl ⟨by decide, HNO.out⟩⟩
end Go.Proofs.YtdbpdanocpfboaaDoor

/- The document's own answer: the parts of a plain formula. -/
namespace Go.Proofs.YtdbpdanocpfboaaDoor
open Go.RowKit

/-- the cells of a row of Forms to be read alone -/
def FlatR (S : Nat → Prop) (W : World) : List Value → List Tr → Prop
  | cs, [] => cs = []
  | cs, .mk op n ks :: r => ∃ ka kb ko kc rest, cs = .int .i64 op :: .int .i64 n :: .slice ka ks.length kc :: rest ∧ (0 < ks.length → ka = some ⟨kb, ko, none⟩) ∧ RsS S W kb ko ks ∧ FlatR S W rest r
theorem FlatR.keep {S S' : Nat → Prop} {W W' : World} (hs : ∀ b, S b → S' b) (hb : ∀ b, S b → W'.heap[b]? = W.heap[b]?) : ∀ {l : List Tr} {cs : List Value}, FlatR S W cs l → FlatR S' W' cs l
  | [], _, h => h
  | .mk op n ks :: r, _, h => by
    obtain ⟨ka, kb, ko, kc, rest, e, h1, h2, h3⟩ := h
    exact ⟨ka, kb, ko, kc, rest, e, h1, RsS.keep hs hb h2, h3.keep hs hb⟩
theorem FlatR.snoc {S : Nat → Prop} {W : World} {op n : Int} {ks : List Tr} {ka : Option Addr} {kb ko kc : Nat} (h1 : 0 < ks.length → ka = some ⟨kb, ko, none⟩) (h2 : RsS S W kb ko ks) : ∀ {l : List Tr} {cs : List Value}, FlatR S W cs l → FlatR S W (cs ++ [.int .i64 op, .int .i64 n, .slice ka ks.length kc]) (l ++ [.mk op n ks])
  | [], _, h => by
    obtain rfl := h
    exact ⟨ka, kb, ko, kc, [], rfl, h1, h2, rfl⟩
  | .mk op' n' ks' :: r, _, h => by
    obtain ⟨ka', kb', ko', kc', rest, rfl, g1, g2, g3⟩ := h
    exact ⟨ka', kb', ko', kc', _, rfl, g1, g2, FlatR.snoc h1 h2 g3⟩
theorem FlatR.rs {S : Nat → Prop} {W : World} {B g : Nat} (hg : g < B) (hS : ∀ b, S b → b < B) : ∀ {l : List Tr} {cs : List Value} {o : Nat}, FlatR S W cs l → (∀ i u, cs[i]? = some u → W.cell? ⟨g, o + i, none⟩ = some u) → RsAt B W g o l
  | [], _, _, _, _ => trivial
  | .mk op n ks :: r, _, o, h, hc => by
    obtain ⟨ka, kb, ko, kc, rest, rfl, h1, h2, h3⟩ := h
    refine ⟨⟨hg, by simpa using hc 0 _ rfl, by simpa using hc 1 _ rfl, ka, kb, ko, kc, by simpa using hc 2 _ rfl, h1, RsS.rat hS h2⟩, FlatR.rs hg hS h3 (fun i u hi => ?_)⟩
    have := hc (i + 3) u (by simpa using hi)
    rwa [show o + (i + 3) = o + 3 + i by omega] at this
/-- a list of one's own, of Forms that lie below base -/
def PL (base : Nat) (W : World) (v : Value) (ts : List Tr) : Prop := ∃ cs, W.ownsRow base 30 3 v ts.length cs ∧ FlatR (fun b => b < base) W cs ts
theorem own_cellsR {w : World} {base g cap n : Nat} {e : TypeId} {size : Nat} {xs : List Value} (h : w.ownsRow base e size (.slice (some ⟨g, 0, none⟩) n cap) n xs) : g < w.heap.size ∧ ∀ i u, xs[i]? = some u → w.cell? ⟨g, 0 + i, none⟩ = some u := by
  obtain ⟨_, h2, h3⟩ := own_cells h
  exact ⟨h2, h3⟩
theorem PL.rlv {base : Nat} {W : World} {v : Value} {ts : List Tr} (h : PL base W v ts) (hb : base ≤ W.heap.size) : RLV W.heap.size W v ts := by
  obtain ⟨cs, h1, h2⟩ := h
  cases hl : ts.length with
  | zero =>
    have ht : ts = [] := List.length_eq_zero_iff.1 hl
    subst ht
    obtain ⟨_, h3⟩ := h1
    rcases h3 with ⟨rfl, _⟩ | ⟨g, cap, cur, rfl, _⟩
    · exact ⟨none, 0, 0, 0, rfl, by simp, trivial⟩
    · exact ⟨some ⟨g, 0, none⟩, 0, 0, cap, rfl, by simp, trivial⟩
  | succ k =>
    have h1' := h1
    rw [hl] at h1'
    obtain ⟨g, cap, e⟩ := ownsRow_form h1'
    rw [← hl] at e
    subst e
    obtain ⟨hg, hc⟩ := own_cellsR h1
    exact ⟨_, g, 0, cap, rfl, fun _ => rfl, FlatR.rs hg (fun b hb' => Nat.lt_of_lt_of_le hb' hb) h2 hc⟩
theorem PL.kept {base : Nat} {W W' : World} {v : Value} {ts : List Tr} (h : PL base W v ts) (hk : Kept (fun _ => False) W W') (hb : base ≤ W.heap.size) : PL base W' v ts := by
  obtain ⟨cs, h1, h2⟩ := h
  exact ⟨cs, ownsRow_of_block h1 (fun q hq => hk.block q (ownsRow_lt h1 hq).1 (fun f => f)), h2.keep (fun _ hb' => hb') (fun b hb' => hk.block b (Nat.lt_of_lt_of_le hb' hb) (fun f => f))⟩
mutual
/-- the parts of a plain formula, behind others -/
noncomputable def partsT : Tr → List Tr → List Tr
  | .mk op n ks, l => open Classical in if 7 ≤ op ∧ op ≤ 9 ∧ Tr.mk op n ks ∉ partsTs ks l then partsTs ks l ++ [.mk op n ks] else partsTs ks l
noncomputable def partsTs : List Tr → List Tr → List Tr
  | [], l => l
  | t :: r, l => partsTs r (partsT t l)
end
theorem partsTs_snoc (t : Tr) : ∀ (r l : List Tr), partsTs (r ++ [t]) l = partsT t (partsTs r l)
  | [], l => by simp [partsTs]
  | x :: r, l => by simp [partsTs, partsTs_snoc t r]
mutual
theorem partsT_len : ∀ (t : Tr) (l : List Tr), (partsT t l).length ≤ l.length + t.size
  | .mk op n ks, l => by
    have h := partsTs_len ks l
    unfold partsT
    simp only [Tr.size]
    split
    · rw [List.length_append]; simp; omega
    · omega
theorem partsTs_len : ∀ (r l : List Tr), (partsTs r l).length ≤ l.length + Tr.sizes r
  | [], l => by simp [partsTs]
  | t :: r, l => by
    have h1 := partsT_len t l
    have h2 := partsTs_len r (partsT t l)
    simp only [partsTs, Tr.sizes]
    omega
end
mutual
theorem partsT_mem {u : Tr} : ∀ (t : Tr) (l : List Tr), u ∈ partsT t l → u ∈ l ∨ u.size ≤ t.size
  | .mk op n ks, l, h => by
    unfold partsT at h
    simp only [Tr.size]
    split at h
    · rcases List.mem_append.1 h with h | h
      · rcases partsTs_mem ks l h with h | h
        · exact .inl h
        · exact .inr (by omega)
      · simp only [List.mem_singleton] at h
        subst h
        exact .inr (by simp [Tr.size])
    · rcases partsTs_mem ks l h with h | h
      · exact .inl h
      · exact .inr (by omega)
theorem partsTs_mem {u : Tr} : ∀ (r l : List Tr), u ∈ partsTs r l → u ∈ l ∨ u.size ≤ Tr.sizes r
  | [], l, h => .inl (by simpa [partsTs] using h)
  | t :: r, l, h => by
    simp only [partsTs] at h
    simp only [Tr.sizes]
    rcases partsTs_mem r (partsT t l) h with h | h
    · rcases partsT_mem t l h with h | h
      · exact .inl h
      · exact .inr (by omega)
    · exact .inr (by omega)
end
theorem sizes_take : ∀ (l : List Tr) (k : Nat), Tr.sizes (l.take k) ≤ Tr.sizes l
  | [], k => by simp [Tr.sizes]
  | t :: r, 0 => by simp [Tr.sizes]
  | t :: r, k + 1 => by have := sizes_take r k; simp [Tr.sizes]; omega
theorem sizes_succ (l : List Tr) (k : Nat) (t : Tr) (h : l[k]? = some t) : Tr.sizes (l.take k) + t.size ≤ Tr.sizes l := by
  induction l generalizing k with
  | nil => simp at h
  | cons x r ih =>
    cases k with
    | zero => simp at h; subst h; simp [Tr.sizes]
    | succ k => have := ih k (by simpa using h); simp [Tr.sizes]; omega

mutual
theorem RAt.rs {B : Nat} {w : World} {b o : Nat} : ∀ {t : Tr}, RAt B w b o t → RS (fun b => b < B) w b o t
  | .mk op n kids, h => by
    obtain ⟨hB, h0, h1, ka, kb, ko, kc, h2, hk, hf⟩ := h
    exact ⟨hB, h0, h1, ka, kb, ko, kc, h2, hk, RsAt.rs hf⟩
theorem RsAt.rs {B : Nat} {w : World} {b o : Nat} : ∀ {l : List Tr}, RsAt B w b o l → RsS (fun b => b < B) w b o l
  | [], _ => trivial
  | _ :: _, h => ⟨RAt.rs h.1, RsAt.rs h.2⟩
end
theorem info30 : (Tryd.prog.info? 30).map (fun i => (i.zero, i.size, i.bytes)) = some (some (.agg #[.int .i64 0, .int .i64 0, .slice none 0 0]), 3, 40) := by kernel_rfl

def Says56 (N : Nat) : Prop := ∀ (t : Tr), t.size ≤ N → N ≤ 268435456 → ∀ (w : World) (base : Nat) (fv lv : Value) (l : List Tr), RV base w fv t → PL base w lv l → base ≤ w.heap.size → (∀ u ∈ l, u.size ≤ 268435456) → l.length + t.size ≤ 268435456 →
    Calls Tryd.prog 56 #[fv, lv] w fun e w' => ∃ v, e = .returned v ∧ Kept (fun b => some b = lv.ownBlock) w w' ∧ PL base w' v (partsT t l) ∧ ∀ b, some b = v.ownBlock → some b = lv.ownBlock ∨ w.heap.size ≤ b

set_option maxRecDepth 100000 in
set_option maxHeartbeats 8000000 in
theorem parts56 : ∀ (N : Nat), Says56 N := by
  intro N
  induction N with
  | zero => intro t ht; have := t.size_pos; omega
  | succ N ih =>
    intro t ht hN w base fv lv l hv hl hb hls hll
    obtain ⟨op, nn, kids⟩ := t
    obtain ⟨ka, kb, ko, kc, rfl, hka, hks⟩ := id hv
    obtain ⟨i0, hi, hz0, hz1, hz2⟩ := info_parts info30
    have IH : Hid (Says56 N) := ih
    have hsz : Tr.sizes kids ≤ N := by simp only [Tr.size] at ht; omega
    have hkl : kids.length ≤ N := by
      have : ∀ l : List Tr, l.length ≤ Tr.sizes l := by
        intro l
        induction l with
        | nil => simp
        | cons t r ih => have := t.size_pos; simp [Tr.sizes]; omega
      exact Nat.le_trans (this kids) hsz
    have hll2 : l.length + Tr.sizes kids < 268435456 := by simp only [Tr.size] at hll; omega
    have HKS : Hid (RsAt base w kb ko kids) := hks
    have HKA : Hid (0 < kids.length → ka = some ⟨kb, ko, none⟩) := hka
    have HV : Hid (RV base w (.agg #[.int .i64 op, .int .i64 nn, .slice ka kids.length kc]) (.mk op nn kids)) := hv
    have HLS : Hid (∀ u ∈ l, u.size ≤ 268435456) := hls
    obtain ⟨W0, hW0⟩ : ∃ W0, W0 = w.alloc (.cells #[.int .i64 op, .int .i64 nn, .slice ka kids.length kc] 30) := ⟨_, rfl⟩
    have k0 : Kept (fun _ => False) w W0 := by rw [hW0]; exact (Kept.refl _ _).alloc _
    have X0 : Hid (Wb3 W0 w.heap.size (.int .i64 op) (.int .i64 nn) (.slice ka kids.length kc)) := by rw [Hid, hW0]; exact Wb3.new w _ _ _ 30
    have hw0 : W0.heap.size = w.heap.size + 1 := by rw [hW0]; simp
    have PL0 : Hid (PL base W0 lv l) := hl.kept k0 hb
    have HOW : Hid (∀ b, some b = lv.ownBlock → b < w.heap.size ∧ base ≤ b) := fun b e => by
      obtain ⟨cs, h1, _⟩ := hl
      exact ownsRow_lt h1 e
    have K0 : Hid (Kept (fun _ => False) w W0) := k0
    have hb0 := Nat.le_trans hb k0.size
    clear ih hks hka hv hls hl k0 ht
    go_enter Tryd.func56, Tryd.ntmps56
    go_upto_region 1 with fail
    rw [← hW0]
    clear hW0
    go_wp2
    go_loopw [1, 5] (fun v1 v5 wr => ∃ k : Nat, k ≤ kids.length ∧ v5 = .int .i64 (k : Int) ∧ Kept (fun b => some b = lv.ownBlock) W0 wr ∧ PL base wr v1 (partsTs (kids.take k) l) ∧ ∀ b, some b = v1.ownBlock → some b = lv.ownBlock ∨ W0.heap.size ≤ b) (fun _ v5 _ => kids.length - (intOf v5).toNat)
    case atStart => exact ⟨0, Nat.zero_le _, rfl, Kept.refl _ _, by simpa [partsTs] using PL0.out, fun b e => .inl e⟩
    case round =>
      obtain ⟨k, hk, rfl, hkr, hpl, hob⟩ := hrel
      have HKR : Hid (Kept (fun b => some b = lv.ownBlock) W0 wr) := hkr
      have HPL : Hid (PL base wr u1 (partsTs (kids.take k) l)) := hpl
      have HOB : Hid (∀ b, some b = u1.ownBlock → some b = lv.ownBlock ∨ W0.heap.size ≤ b) := hob
      have kwr : Kept (fun b => some b = lv.ownBlock) w wr := (K0.out.mono (fun _ _ f => f.elim)).trans hkr (fun _ _ f => f)
      have KWR : Hid (Kept (fun b => some b = lv.ownBlock) w wr) := kwr
      have hbe : Below base w wr := kwr.below hb (fun k e => (HOW.out k e).2)
      have HBE : Hid (Below base w wr) := hbe
      have hne : ¬ some w.heap.size = lv.ownBlock := fun e => by have := (HOW.out _ e).1; omega
      have hxl : w.heap.size < W0.heap.size := X0.out.1
      have x10 := (hkr.cell (p := ⟨w.heap.size, 0, none⟩) hxl hne).trans X0.out.2.1.1
      have x11 := (hkr.cell (p := ⟨w.heap.size, 1, none⟩) hxl hne).trans X0.out.2.1.2.1
      have x12 := (hkr.cell (p := ⟨w.heap.size, 2, none⟩) hxl hne).trans X0.out.2.1.2.2
      have hbr : base ≤ wr.heap.size := Nat.le_trans hb0 hkr.size
      clear hkr hpl hob kwr hbe
      by_cases hlt : k < kids.length
      · have hlti : (k : Int) < (kids.length : Int) := by omega
        have hnle : ¬ ((kids.length : Int) ≤ (k : Int)) := by omega
        have ea := HKA.out (by omega)
        subst ea
        obtain ⟨t1, ht1⟩ : ∃ t1, kids[k]? = some t1 := ⟨kids[k], List.getElem?_eq_getElem hlt⟩
        have hs1 := sizes_succ kids k t1 ht1
        have hts : t1.size ≤ N := by omega
        have hln := partsTs_len (kids.take k) l
        have HME : Hid (∀ u ∈ partsTs (kids.take k) l, u.size ≤ 268435456) := fun u hu => by
          rcases partsTs_mem _ _ hu with h | h
          · exact HLS.out u h
          · have := sizes_take kids k; omega
        have HTK : Hid (kids.take (k + 1) = kids.take k ++ [t1]) := by rw [Hid, List.take_add_one, ht1]; rfl
        have hg1 := (RsAt.below HBE.out HKS.out).get ht1
        clear ht1
        obtain ⟨o3, n3, ks3⟩ := t1
        obtain ⟨ka3, kc3, s0, s1, s2, hFa⟩ := hg1.val
        have HA : Hid (RV base wr (.agg #[.int .i64 o3, .int .i64 n3, .slice ka3 ks3.length kc3]) (.mk o3 n3 ks3)) := hFa
        clear hFa hg1
        go_wp2_with (go_at_call 56; refine (IH.out (.mk o3 n3 ks3) hts (by omega) _ base _ _ _ HA.out HPL.out hbr HME.out (by omega)).mono ?_; rintro e w4 ⟨v', rfl, k4, pl4, ob4⟩)
        go_roundw
        case rel =>
          refine ⟨k + 1, by omega, by go_num, HKR.out.trans k4 (fun q hq e => (HOB.out q e).elim id (fun g => absurd g (by omega))), ?_, fun q e => ?_⟩
          · rw [HTK.out, partsTs_snoc]
            exact pl4
          · rcases ob4 q e with h | h
            · exact HOB.out q h
            · exact .inr (Nat.le_trans HKR.out.size h)
        case measure => simp [intOf]; omega
      · have hlti : ¬ (k : Int) < (kids.length : Int) := by omega
        have HTK : Hid (kids.take k = kids) := List.take_of_length_le (by omega)
        have HPL2 : Hid (PL base wr u1 (partsTs kids l)) := by rw [Hid, ← HTK.out]; exact HPL.out
        clear HPL
        have hln := partsTs_len kids l
        have HME : Hid (∀ u ∈ partsTs kids l, u.size ≤ 268435456) := fun u hu => by
          rcases partsTs_mem _ _ hu with h | h
          · exact HLS.out u h
          · omega
        have HOB2 : Hid (∀ b, some b = u1.ownBlock → some b = lv.ownBlock ∨ w.heap.size ≤ b) := fun q e => (HOB.out q e).imp id (fun g => by omega)
        have HRL : Hid (RLV wr.heap.size wr u1 (partsTs kids l)) := HPL2.out.rlv hbr
        have HFR : Hid (RV wr.heap.size wr (.agg #[.int .i64 op, .int .i64 nn, .slice ka kids.length kc]) (.mk op nn kids)) := (HV.out.below HBE.out).mono hbr
        by_cases hop : 7 ≤ op ∧ op ≤ 9
        · have hge : op ≥ 7 := hop.1
          have hle := hop.2
          by_cases hin : Tr.mk op nn kids ∈ partsTs kids l
          · have HIN : Hid (Tr.mk op nn kids ∈ partsTs kids l) := hin
            have HP : Hid (partsT (.mk op nn kids) l = partsTs kids l) := by rw [Hid, partsT, if_neg (fun h => h.2.2 hin)]
            clear hin hop
            go_wp2_with (go_at_call 92; refine (find92 _ _ _ _ _ _ HRL.out HFR.out (Nat.le_refl _) HME.out (by omega)).mono ?_; rintro e w5 ⟨k5, r, rfl, hr⟩; have hr0 : ¬ r < 0 := (by rcases hr with ⟨_, h⟩ | ⟨h, _⟩; exact absurd HIN.out h; omega); clear hr)
            go_ret
            refine ⟨u1, rfl, KWR.out.trans k5 (fun _ _ f => f.elim), ?_, HOB2.out⟩
            rw [HP.out]
            exact HPL2.out.kept k5 hbr
          · have HIN : Hid (Tr.mk op nn kids ∉ partsTs kids l) := hin
            have HP : Hid (partsT (.mk op nn kids) l = partsTs kids l ++ [.mk op nn kids]) := by rw [Hid, partsT, if_pos ⟨hop.1, hop.2, hin⟩]
            clear hin hop
            go_upto_region 6 with (go_at_call 92; refine (find92 _ _ _ _ _ _ HRL.out HFR.out (Nat.le_refl _) HME.out (by omega)).mono ?_; rintro e w5 ⟨k5, r, rfl, hr⟩; have hr0 : r < 0 := (by rcases hr with ⟨h, _⟩ | ⟨_, h⟩; exact h; exact absurd h HIN.out); clear hr)
            obtain ⟨cs, own5, fl5⟩ := HPL2.out.kept k5 hbr
            have OWN5 : Hid (w5.ownsRow base 30 3 u1 (partsTs kids l).length cs) := own5
            have FL5 : Hid (FlatR (fun b => b < base) w5 cs (partsTs kids l)) := fl5
            have kw5 : Kept (fun b => some b = lv.ownBlock) w w5 := KWR.out.trans k5 (fun _ _ f => f.elim)
            have KW5 : Hid (Kept (fun b => some b = lv.ownBlock) w w5) := kw5
            have x20 := (k5.cell (lt_of_cell x10) (fun f => f)).trans x10
            have x21 := (k5.cell (lt_of_cell x11) (fun f => f)).trans x11
            have x22 := (k5.cell (lt_of_cell x12) (fun f => f)).trans x12
            have hb5 : base ≤ w5.heap.size := Nat.le_trans hbr k5.size
            clear own5 fl5 kw5 x10 x11 x12
            go_wp2_with (at_builtin; refine wpList_append_own_at _ rfl _ _ 28 rfl base 30 i0 _ 3 40 Tryd.underlying28 hi hz0 hz1 hz2 rfl (by decide) u1 (partsTs kids l).length cs rfl (OWN5.out.alloc _) ⟨w5.heap.size, 0, none⟩ 1 1 [.int .i64 op, .int .i64 nn, .slice ka kids.length kc] rfl rfl ?c1 ?c2 ?c3 ?c4 ?c5 ?_; rotate_left 5; intro v' w6 own6 gr6 _ ob6)
            case c1 =>
              intro j u hu
              match j with
              | 0 => simp only [List.getElem?_cons_zero, Option.some.injEq] at hu; subst hu; simp [Addr.add]
              | 1 => simp only [List.getElem?_cons_succ, List.getElem?_cons_zero, Option.some.injEq] at hu; subst hu; simp [Addr.add]
              | 2 => simp only [List.getElem?_cons_succ, List.getElem?_cons_zero, Option.some.injEq] at hu; subst hu; simp [Addr.add]
              | j + 3 => simp at hu
            case c2 => intro u hu; simp only [List.mem_cons, List.not_mem_nil, or_false] at hu; rcases hu with rfl | rfl | rfl <;> rfl
            case c3 => unfold maxLen; omega
            case c4 => omega
            case c5 => simp; exact Nat.le_trans hb5 (Nat.le_succ _)
            go_ret
            have k6 : Kept (fun b => some b = lv.ownBlock) w w6 := (KW5.out.alloc _).grown gr6 (fun q h1 h2 => (HOB2.out q h2).elim id (fun g => absurd g (by omega)))
            have kb6 : Below base w5 w6 := ((Kept.refl (fun b => base ≤ b) w5).alloc _ |>.grown gr6 (fun q _ h2 => (ownsRow_lt OWN5.out h2).2)).below hb5 (fun _ e => e)
            refine ⟨v', rfl, k6, ?_, fun q e => ?_⟩
            · rw [HP.out]
              refine ⟨_, by rw [List.length_append]; exact own6, ?_⟩
              have hk6 := RsAt.rs (RsAt.below (k6.below hb (fun k e => (HOW.out k e).2)) HKS.out)
              exact FlatR.snoc HKA.out hk6 (FL5.out.keep (fun _ hb' => hb') (fun b hb' => kb6.block b hb'))
            · rcases ob6 with h | h
              · rw [h] at e; exact HOB2.out q e
              · rw [h] at e
                cases e
                exact .inr (Nat.le_trans KW5.out.size (by simp))
        · have HP : Hid (partsT (.mk op nn kids) l = partsTs kids l) := by rw [Hid, partsT, if_neg (fun h => hop ⟨h.1, h.2.1⟩)]
          by_cases h7 : 7 ≤ op
          · have hge : op ≥ 7 := h7
            have hgt : ¬ op ≤ 9 := fun h => hop ⟨h7, h⟩
            clear hop h7
            go_wp2
            go_ret
            refine ⟨u1, rfl, KWR.out, ?_, HOB2.out⟩
            rw [HP.out]
            exact HPL2.out
          · have hge : ¬ op ≥ 7 := h7
            clear hop h7
            go_wp2
            go_ret
            refine ⟨u1, rfl, KWR.out, ?_, HOB2.out⟩
            rw [HP.out]
            exact HPL2.out
end Go.Proofs.YtdbpdanocpfboaaDoor

/- What is within a formula, each once, and its parts: no program here. -/
namespace Go.Proofs.YtdbpdanocpfboaaDoor
open Go.RowKit

mutual
/-- what is within a tree, behind what was found: each once, Kids first -/
noncomputable def visT : Tr → List Tr → List Tr
  | .mk op n ks, l => open Classical in if Tr.mk op n ks ∈ l then l else visTs ks l ++ [.mk op n ks]
noncomputable def visTs : List Tr → List Tr → List Tr
  | [], l => l
  | t :: r, l => visTs r (visT t l)
end
def ClT (l : List Tr) : Prop := ∀ t ∈ l, ∀ k ∈ t.kids, k ∈ l
mutual
theorem visT_sub : ∀ (t : Tr) (l : List Tr) (x : Tr), x ∈ l → x ∈ visT t l
  | .mk op n ks, l, x, h => by
    unfold visT
    split
    · exact h
    · exact List.mem_append.2 (.inl (visTs_sub ks l x h))
theorem visTs_sub : ∀ (ks l : List Tr) (x : Tr), x ∈ l → x ∈ visTs ks l
  | [], _, _, h => h
  | t :: r, l, x, h => visTs_sub r _ x (visT_sub t l x h)
end
theorem visT_mem (t : Tr) (l : List Tr) : t ∈ visT t l := by
  obtain ⟨op, n, ks⟩ := t
  unfold visT
  split
  · assumption
  · simp
theorem visTs_mem : ∀ (ks l : List Tr) (k : Tr), k ∈ ks → k ∈ visTs ks l
  | t :: r, l, k, h => by
    rcases List.mem_cons.1 h with rfl | h
    · exact visTs_sub r _ _ (visT_mem k l)
    · exact visTs_mem r _ k h
mutual
theorem visT_cl : ∀ (t : Tr) (l : List Tr), ClT l → ClT (visT t l)
  | .mk op n ks, l, h => by
    unfold visT
    split
    · exact h
    · have h1 := visTs_cl ks l h
      intro t ht k hk
      rcases List.mem_append.1 ht with ht | ht
      · exact List.mem_append.2 (.inl (h1 t ht k hk))
      · obtain rfl := List.mem_singleton.1 ht
        exact List.mem_append.2 (.inl (visTs_mem ks l k hk))
theorem visTs_cl : ∀ (ks l : List Tr), ClT l → ClT (visTs ks l)
  | [], _, h => h
  | t :: r, l, h => visTs_cl r _ (visT_cl t l h)
end
mutual
theorem visT_old : ∀ (t : Tr) (l : List Tr) (x : Tr), x ∈ visT t l → x ∈ l ∨ x.size ≤ t.size
  | .mk op n ks, l, x, h => by
    unfold visT at h
    split at h
    · exact .inl h
    · rcases List.mem_append.1 h with h | h
      · rcases visTs_old ks l x h with h | h
        · exact .inl h
        · exact .inr (by simp only [Tr.size]; omega)
      · obtain rfl := List.mem_singleton.1 h
        exact .inr (Nat.le_refl _)
theorem visTs_old : ∀ (ks l : List Tr) (x : Tr), x ∈ visTs ks l → x ∈ l ∨ x.size ≤ Tr.sizes ks
  | [], _, _, h => .inl h
  | t :: r, l, x, h => by
    rcases visTs_old r _ x h with h | h
    · rcases visT_old t l x h with h | h
      · exact .inl h
      · exact .inr (by simp only [Tr.sizes]; omega)
    · exact .inr (by simp only [Tr.sizes]; omega)
end
theorem vis_new (ks l : List Tr) (op n : Int) (h : Tr.mk op n ks ∈ visTs ks l) : Tr.mk op n ks ∈ l := by
  rcases visTs_old ks l _ h with h | h
  · exact h
  · simp only [Tr.size] at h
    omega
/-- those that speak of later -/
def latT (t : Tr) : Bool := decide (7 ≤ t.op ∧ t.op ≤ 9)
mutual
theorem parts_in : ∀ (t : Tr) (l : List Tr), ClT l → t ∈ l → partsT t (l.filter latT) = l.filter latT
  | .mk op n ks, l, h, ht => by
    have h1 : partsTs ks (l.filter latT) = l.filter latT := parts_ins ks l h (fun k hk => h _ ht k hk)
    unfold partsT
    rw [h1, if_neg]
    rintro ⟨h2, h3, h4⟩
    exact h4 (List.mem_filter.2 ⟨ht, by simp [latT, Tr.op, h2, h3]⟩)
theorem parts_ins : ∀ (ks l : List Tr), ClT l → (∀ k ∈ ks, k ∈ l) → partsTs ks (l.filter latT) = l.filter latT
  | [], _, _, _ => rfl
  | t :: r, l, h, hk => by
    unfold partsTs
    rw [parts_in t l h (hk t (by simp))]
    exact parts_ins r l h (fun k hk' => hk k (by simp [hk']))
end
mutual
theorem parts_vis : ∀ (t : Tr) (l : List Tr), ClT l → partsT t (l.filter latT) = (visT t l).filter latT
  | .mk op n ks, l, h => by
    by_cases ht : Tr.mk op n ks ∈ l
    · rw [parts_in _ l h ht]
      unfold visT
      rw [if_pos ht]
    · have h1 : partsTs ks (l.filter latT) = (visTs ks l).filter latT := parts_viss ks l h
      unfold partsT visT
      rw [if_neg ht, h1, List.filter_append]
      by_cases hl : 7 ≤ op ∧ op ≤ 9
      · have hlt : latT (.mk op n ks) = true := by simp [latT, Tr.op, hl]
        rw [show List.filter latT [Tr.mk op n ks] = [Tr.mk op n ks] by simp [hlt]]
        by_cases hm : Tr.mk op n ks ∈ (visTs ks l).filter latT
        · exact absurd (vis_new ks l op n (List.mem_filter.1 hm).1) ht
        · rw [if_pos ⟨hl.1, hl.2, hm⟩]
      · have hlt : latT (.mk op n ks) = false := by simp only [latT, Tr.op]; exact decide_eq_false hl
        rw [show List.filter latT [Tr.mk op n ks] = [] by simp [hlt], List.append_nil, if_neg (fun h => hl ⟨h.1, h.2.1⟩)]
theorem parts_viss : ∀ (ks l : List Tr), ClT l → partsTs ks (l.filter latT) = (visTs ks l).filter latT
  | [], _, _ => rfl
  | t :: r, l, h => by
    unfold partsTs visTs
    rw [parts_vis t l h]
    exact parts_viss r _ (visT_cl t l h)
end
/-- the numbers of trees -/
def RelL (ns : List Nd) : List Int → List Tr → Prop
  | [], [] => True
  | i :: r, t :: s => (Den ns i t ∧ t.well) ∧ RelL ns r s
  | _, _ => False
theorem RelL.len {ns : List Nd} : ∀ {od : List Int} {ts : List Tr}, RelL ns od ts → od.length = ts.length
  | [], [], _ => rfl
  | _ :: _, _ :: _, h => by simp [RelL.len h.2]
theorem RelL.snoc {ns : List Nd} {i : Int} {t : Tr} (hd : Den ns i t) (hw : t.well) : ∀ {od : List Int} {ts : List Tr}, RelL ns od ts → RelL ns (od ++ [i]) (ts ++ [t])
  | [], [], _ => ⟨⟨hd, hw⟩, trivial⟩
  | _ :: _, _ :: _, h => ⟨h.1, RelL.snoc hd hw h.2⟩
mutual
/-- a tree has one number -/
theorem Den.uniq {ns : List Nd} (hn : ns.Nodup) : ∀ {t : Tr} {i i' : Int}, Den ns i t → Den ns i' t → i = i'
  | .mk op n ks, i, i', h, h' => by
    obtain ⟨j, ids, rfl, hg, hk⟩ := h
    obtain ⟨j', ids', rfl, hg', hk'⟩ := h'
    obtain rfl := Dens.uniq hn hk hk'
    have h1 := (List.getElem?_eq_some_iff.1 hg)
    have h2 := (List.getElem?_eq_some_iff.1 hg')
    obtain ⟨l1, e1⟩ := h1
    obtain ⟨l2, e2⟩ := h2
    rcases Nat.lt_trichotomy j j' with h | h | h
    · exact absurd (e1.trans e2.symm) (List.pairwise_iff_getElem.1 hn j j' l1 l2 h)
    · rw [h]
    · exact absurd (e2.trans e1.symm) (List.pairwise_iff_getElem.1 hn j' j l2 l1 h)
theorem Dens.uniq {ns : List Nd} (hn : ns.Nodup) : ∀ {l : List Tr} {ids ids' : List Int}, Dens ns ids l → Dens ns ids' l → ids = ids'
  | [], _, _, h, h' => (show _ = [] from h).trans (show _ = [] from h').symm
  | t :: r, _, _, h, h' => by
    obtain ⟨i, rest, rfl, h1, h2⟩ := h
    obtain ⟨i', rest', rfl, h3, h4⟩ := h'
    rw [Den.uniq hn h1 h3, Dens.uniq hn h2 h4]
end
theorem RelL.mem {ns : List Nd} (hn : ns.Nodup) {i : Int} {t : Tr} (hd : Den ns i t) (hw : t.well) : ∀ {od : List Int} {ts : List Tr}, RelL ns od ts → (i ∈ od ↔ t ∈ ts)
  | [], [], _ => by simp
  | j :: r, u :: s, h => by
    have ih := RelL.mem hn hd hw h.2
    rw [List.mem_cons, List.mem_cons, ih]
    constructor
    · rintro (rfl | h1)
      · exact .inl (Den.inj hw h.1.2 hd h.1.1)
      · exact .inr h1
    · rintro (rfl | h1)
      · exact .inl (Den.uniq hn hd h.1.1)
      · exact .inr h1
end Go.Proofs.YtdbpdanocpfboaaDoor

/- What the walk over numbers of Nodes keeps: its stack, its numbers, what it has found. -/
namespace Go.Proofs.YtdbpdanocpfboaaDoor
open Go.RowKit

/-- something to enter, or, if it has been entered, to leave -/
structure TaskI where
  ent : Bool
  id : Int
  t : Tr
def TaskI.kl (k : TaskI) : Nat := if k.ent then k.t.kids.length else 0
def TaskI.cells (k : TaskI) : List Value := [.int .i64 k.id, .bool k.ent, .int .i64 (k.kl : Int)]
def TaskI.wt (k : TaskI) : Nat := if k.ent then 1 else 2 * k.t.size
def wtsI : List TaskI → Nat
  | [] => 0
  | k :: s => k.wt + wtsI s
theorem wtsI_append (a b : List TaskI) : wtsI (a ++ b) = wtsI a + wtsI b := by
  induction a with
  | nil => simp [wtsI]
  | cons k s ih => simp [wtsI, ih]; omega
theorem length_le_wtsI (st : List TaskI) : st.length ≤ wtsI st := by
  induction st with
  | nil => simp
  | cons k s ih =>
    have h : 0 < k.wt := by
      unfold TaskI.wt
      split
      · omega
      · have := k.t.size_pos; omega
    simp [wtsI]; omega
def kidTI : List Int → List Tr → List TaskI
  | i :: r, t :: s => ⟨false, i, t⟩ :: kidTI r s
  | _, _ => []
theorem kidTI_length : ∀ {ids : List Int} {ks : List Tr}, ids.length = ks.length → (kidTI ids ks).length = ids.length
  | [], [], _ => rfl
  | _ :: _, _ :: _, h => by simp [kidTI, kidTI_length (by simpa using h)]
theorem kidTI_mem {k : TaskI} : ∀ {ids : List Int} {ks : List Tr}, k ∈ kidTI ids ks → k.ent = false ∧ k.id ∈ ids
  | i :: r, t :: s, h => by
    rcases List.mem_cons.1 h with rfl | h
    · exact ⟨rfl, by simp⟩
    · have := kidTI_mem h
      exact ⟨this.1, by simp [this.2]⟩
theorem kidTI_den {ns : List Nd} {k : TaskI} : ∀ {ids : List Int} {ks : List Tr}, Dens ns ids ks → Tr.wells ks → k ∈ kidTI ids ks → Den ns k.id k.t ∧ k.t.well
  | i :: r, t :: s, hd, hw, h => by
    obtain ⟨i', r', e, h1, h2⟩ := hd
    cases e
    rcases List.mem_cons.1 h with rfl | h
    · exact ⟨h1, hw.1⟩
    · exact kidTI_den h2 hw.2 h
theorem kidTI_wts : ∀ {ids : List Int} {ks : List Tr}, ids.length = ks.length → wtsI (kidTI ids ks) = 2 * Tr.sizes ks
  | [], [], _ => rfl
  | _ :: _, _ :: _, h => by simp [kidTI, wtsI, TaskI.wt, Tr.sizes, kidTI_wts (by simpa using h)]; omega
/-- what will have been found in the end -/
noncomputable def finI : List TaskI → List Tr → List Tr
  | [], l => l
  | k :: s, l => if k.ent then finI s (l ++ [k.t]) else finI s (visT k.t l)
theorem finI_kids (s : List TaskI) : ∀ {ids : List Int} {ks : List Tr} {l : List Tr}, ids.length = ks.length → finI (kidTI ids ks ++ s) l = finI s (visTs ks l)
  | [], [], l, _ => by simp [kidTI, visTs]
  | _ :: _, _ :: _, l, h => by
    simp only [kidTI, List.cons_append, finI, visTs]
    exact finI_kids s (by simpa using h)
def DescI : List TaskI → Prop
  | [] => True
  | k :: s => (∀ j ∈ s, j.ent = true → k.id < j.id) ∧ DescI s
def NumsI : List TaskI → Nat → Prop
  | [], _ => True
  | k :: s, n => if k.ent then k.t.kids.length ≤ n ∧ NumsI s (n - k.t.kids.length + 1) else NumsI s (n + 1)
theorem NumsI_kids (s : List TaskI) : ∀ {ids : List Int} {ks : List Tr} {n : Nat}, ids.length = ks.length → (NumsI (kidTI ids ks ++ s) n ↔ NumsI s (n + ks.length))
  | [], [], n, _ => by simp [kidTI]
  | _ :: _, _ :: r, n, h => by
    simp only [kidTI, List.cons_append, NumsI]
    rw [if_neg (by simp), NumsI_kids s (by simpa using h)]
    rw [show n + 1 + r.length = n + (r.length + 1) by omega]
    simp
def openI (st : List TaskI) (x : Int) : Prop := ∃ k ∈ st, k.ent = true ∧ k.id = x
open Classical in
noncomputable def foundI (st : List TaskI) (od : List Int) (x : Int) : Option Value := if openI st x then some (.int .i64 (-1)) else if x ∈ od then some (.int .i64 x) else none

theorem foundI_congr {st st' : List TaskI} {od od' : List Int} {x : Int} (h1 : openI st x ↔ openI st' x) (h2 : x ∈ od ↔ x ∈ od') : foundI st od x = foundI st' od' x := by
  unfold foundI
  by_cases a : openI st x
  · rw [if_pos a, if_pos (h1.1 a)]
  · rw [if_neg a, if_neg (fun b => a (h1.2 b))]
    by_cases c : x ∈ od
    · rw [if_pos c, if_pos (h2.1 c)]
    · rw [if_neg c, if_neg (fun b => c (h2.2 b))]

structure GI (ns : List Nd) (rt : Tr) (st : List TaskI) (nums od : List Int) (ts : List Tr) (m : Value → Option Value) : Prop where
  rel : RelL ns od ts
  fin : finI st ts = visT rt []
  den : ∀ k ∈ st, Den ns k.id k.t ∧ k.t.well
  desc : DescI st
  found : ∀ x : Int, m (.int .i64 x) = foundI st od x
  nok : NumsI st nums.length
  b1 : nums.length + wtsI st ≤ 2 * rt.size
  b2 : od.length + wtsI st ≤ 2 * rt.size
section
variable {ns : List Nd} {rt : Tr} {i : Int} {t : Tr} {s : List TaskI} {nums od : List Int} {ts : List Tr} {m m' : Value → Option Value}
theorem openI_cons {k : TaskI} {x : Int} : openI (k :: s) x ↔ (k.ent = true ∧ k.id = x) ∨ openI s x := by
  unfold openI
  simp
/-- what has been found is none that is open -/
theorem GI.hit (hn : ns.Nodup) (h : GI ns rt (⟨false, i, t⟩ :: s) nums od ts m) {x : Value} (hm : m (.int .i64 i) = some x) : x = .int .i64 i ∧ 0 ≤ i ∧ GI ns rt s (nums ++ [i]) od ts m := by
  obtain ⟨hd, hw⟩ := h.den _ (.head _)
  have hno : ¬ openI (⟨false, i, t⟩ :: s) i := by
    rintro ⟨k, hk, h1, h2⟩
    rcases List.mem_cons.1 hk with rfl | hk
    · cases h1
    · have := h.desc.1 k hk h1
      simp only at this
      omega
  rw [h.found, foundI, if_neg hno] at hm
  split at hm
  · rename_i hmem
    injection hm with hm
    have ht : t ∈ ts := (h.rel.mem hn hd hw).1 hmem
    have hv : visT t ts = ts := by
      obtain ⟨op, n, ks⟩ := t
      unfold visT
      rw [if_pos ht]
    have hs := t.size_pos
    refine ⟨hm.symm, hd.lt.1, ⟨h.rel, ?_, fun k hk => h.den k (.tail _ hk), h.desc.2, fun y => ?_, ?_, ?_, ?_⟩⟩
    · have := h.fin
      simp only [finI] at this
      rwa [if_neg (by simp), hv] at this
    · rw [h.found]
      exact foundI_congr (by rw [openI_cons]; simp) Iff.rfl
    · have := h.nok
      simp only [NumsI] at this
      rw [if_neg (by simp)] at this
      simpa using this
    · have := h.b1
      simp only [wtsI, TaskI.wt] at this
      simp at this ⊢
      omega
    · have := h.b2
      simp only [wtsI, TaskI.wt] at this
      simp at this ⊢
      omega
  · cases hm
theorem GI.enter (hn : ns.Nodup) (h : GI ns rt (⟨false, i, t⟩ :: s) nums od ts m) (hm : m (.int .i64 i) = none) {ids : List Int} (hk : Dens ns ids t.kids) (hi : ∀ x ∈ ids, x < i) (h1 : m' (.int .i64 i) = some (.int .i64 (-1))) (h2 : ∀ k, k ≠ .int .i64 i → m' k = m k) :
    GI ns rt (kidTI ids t.kids ++ ⟨true, i, t⟩ :: s) nums od ts m' := by
  obtain ⟨hd, hw⟩ := h.den _ (.head _)
  have hl := hk.length
  have hni : i ∉ od := by
    intro hmem
    rw [h.found, foundI] at hm
    split at hm
    · cases hm
    · cases hm
  have ht : t ∉ ts := fun ht => hni ((h.rel.mem hn hd hw).2 ht)
  have hv : visT t ts = visTs t.kids ts ++ [t] := by
    obtain ⟨op, n, ks⟩ := t
    rw [visT, if_neg ht]
    rfl
  have hsz : t.size = 1 + Tr.sizes t.kids := by obtain ⟨op, n, ks⟩ := t; rfl
  refine ⟨h.rel, ?_, fun k hk' => ?_, ?_, fun x => ?_, ?_, ?_, ?_⟩
  · rw [finI_kids _ hl]
    have := h.fin
    simp only [finI] at this ⊢
    rw [if_neg (by simp), hv] at this
    rw [if_pos trivial]
    exact this
  · rcases List.mem_append.1 hk' with h3 | h3
    · have hww : Tr.wells t.kids := by obtain ⟨op, n, ks⟩ := t; exact hw.2
      exact kidTI_den hk hww h3
    · rcases List.mem_cons.1 h3 with rfl | h3
      · exact ⟨hd, hw⟩
      · exact h.den k (.tail _ h3)
  · have hbase : DescI (⟨true, i, t⟩ :: s) := ⟨h.desc.1, h.desc.2⟩
    have key : ∀ (l : List TaskI), (∀ k ∈ l, k.ent = false ∧ k.id < i) → DescI (l ++ ⟨true, i, t⟩ :: s) := by
      intro l
      induction l with
      | nil => intro _; exact hbase
      | cons k r ih =>
        intro hr
        refine ⟨fun j hj he => ?_, ih (fun x hx => hr x (.tail _ hx))⟩
        have hk0 := (hr k (.head _)).2
        rcases List.mem_append.1 hj with hj | hj
        · have := (hr j (.tail _ hj)).1
          rw [this] at he
          cases he
        · rcases List.mem_cons.1 hj with rfl | hj
          · exact hk0
          · have := h.desc.1 j hj he
            simp only at this
            omega
    exact key _ (fun k hk' => ⟨(kidTI_mem hk').1, hi _ (kidTI_mem hk').2⟩)
  · have ho : openI (kidTI ids t.kids ++ ⟨true, i, t⟩ :: s) x ↔ x = i ∨ openI s x := by
      constructor
      · rintro ⟨k, hk', h3, h4⟩
        rcases List.mem_append.1 hk' with h5 | h5
        · rw [(kidTI_mem h5).1] at h3; cases h3
        · rcases List.mem_cons.1 h5 with rfl | h5
          · exact .inl h4.symm
          · exact .inr ⟨k, h5, h3, h4⟩
      · rintro (rfl | ⟨k, h5, h3, h4⟩)
        · exact ⟨_, List.mem_append.2 (.inr (.head _)), rfl, rfl⟩
        · exact ⟨k, List.mem_append.2 (.inr (.tail _ h5)), h3, h4⟩
    by_cases hx : x = i
    · subst hx
      rw [h1, foundI, if_pos (ho.2 (.inl rfl))]
    · rw [h2 _ (fun e => hx (by injection e)), h.found]
      have e1 : openI (⟨false, i, t⟩ :: s) x ↔ openI s x := by rw [openI_cons]; simp
      have e2 : openI (kidTI ids t.kids ++ ⟨true, i, t⟩ :: s) x ↔ openI s x := by rw [ho]; simp [hx]
      exact foundI_congr (e1.trans e2.symm) Iff.rfl
  · rw [NumsI_kids _ hl]
    have := h.nok
    simp only [NumsI] at this ⊢
    rw [if_neg (by simp)] at this
    rw [if_pos trivial]
    refine ⟨by omega, ?_⟩
    rwa [show nums.length + t.kids.length - t.kids.length + 1 = nums.length + 1 by omega]
  · have := h.b1
    simp only [wtsI, TaskI.wt] at this
    rw [wtsI_append, kidTI_wts hl]
    simp [wtsI, TaskI.wt] at this ⊢
    omega
  · have := h.b2
    simp only [wtsI, TaskI.wt] at this
    rw [wtsI_append, kidTI_wts hl]
    simp [wtsI, TaskI.wt] at this ⊢
    omega
theorem GI.leave (h : GI ns rt (⟨true, i, t⟩ :: s) nums od ts m) (h1 : m' (.int .i64 i) = some (.int .i64 i)) (h2 : ∀ k, k ≠ .int .i64 i → m' k = m k) :
    t.kids.length ≤ nums.length ∧ GI ns rt s (nums.take (nums.length - t.kids.length) ++ [i]) (od ++ [i]) (ts ++ [t]) m' := by
  obtain ⟨hd, hw⟩ := h.den _ (.head _)
  have hnk := h.nok
  simp only [NumsI] at hnk
  rw [if_pos trivial] at hnk
  refine ⟨hnk.1, ⟨h.rel.snoc hd hw, ?_, fun k hk => h.den k (.tail _ hk), h.desc.2, fun x => ?_, ?_, ?_, ?_⟩⟩
  · have := h.fin
    simp only [finI] at this
    rwa [if_pos trivial] at this
  · have hno : ¬ openI s i := by
      rintro ⟨k, hk, h3, h4⟩
      have := h.desc.1 k hk h3
      simp only at this
      omega
    by_cases hx : x = i
    · subst hx
      rw [h1, foundI, if_neg hno, if_pos (by simp)]
    · rw [h2 _ (fun e => hx (by injection e)), h.found]
      have e1 : openI (⟨true, i, t⟩ :: s) x ↔ openI s x := by rw [openI_cons]; simp [Ne.symm hx]
      have e2 : x ∈ od ++ [i] ↔ x ∈ od := by simp [hx]
      exact foundI_congr e1 e2.symm
  · have e : (nums.take (nums.length - t.kids.length) ++ [i]).length = nums.length - t.kids.length + 1 := by simp
    rw [e]
    exact hnk.2
  · have := h.b1
    simp only [wtsI, TaskI.wt] at this
    simp at this ⊢
    omega
  · have := h.b2
    simp only [wtsI, TaskI.wt] at this
    simp at this ⊢
    omega
theorem GI.done (h : GI ns rt [] nums od ts m) : RelL ns od (visT rt []) := by
  have := h.fin
  simp only [finI] at this
  rw [← this]
  exact h.rel
theorem GI.start (hd : Den ns i rt) (hw : rt.well) : GI ns rt [⟨false, i, rt⟩] [] [] [] (fun _ => none) :=
  ⟨trivial, by simp [finI], fun k hk => by obtain rfl := List.mem_singleton.1 hk; exact ⟨hd, hw⟩, ⟨by simp, trivial⟩, fun x => by rw [foundI, if_neg (by rintro ⟨k, hk, h1, _⟩; obtain rfl := List.mem_singleton.1 hk; cases h1), if_neg (by simp)], by simp [NumsI], by simp [wtsI, TaskI.wt], by simp [wtsI, TaskI.wt]⟩
end
end Go.Proofs.YtdbpdanocpfboaaDoor

/- slices.Backward over ints; the two closures of Within. -/
namespace Go.Proofs.YtdbpdanocpfboaaDoor
open Go.RowKit Go.Shelf
attribute [local go_sem] Oper.semAt_some

/-- ints that lie in a row -/
def IntsAt (W : World) (a : Option Addr) (nb : Nat) (ids : List Int) : Prop := ∀ (j : Nat) (x : Int), ids[j]? = some x → a = some ⟨nb, 0, none⟩ ∧ W.cell? ⟨nb, j, none⟩ = some (.int .i64 x)
/-- what comes when k are left, from the last on -/
def downI (ids : List Int) (k : Nat) : List (Nat × Int) := (List.range (ids.length - k)).map fun j => (ids.length - 1 - j, ids.getD (ids.length - 1 - j) 0)
theorem downI_step (ids : List Int) (k : Nat) (h : k < ids.length) : downI ids k = downI ids (k + 1) ++ [(k, ids.getD k 0)] := by
  unfold downI
  have e : ids.length - k = (ids.length - (k + 1)) + 1 := by omega
  rw [e, List.range_succ, List.map_append]
  have e2 : ids.length - 1 - (ids.length - (k + 1)) = k := by omega
  simp [e2]
theorem downI_length (ids : List Int) (k : Nat) : (downI ids k).length = ids.length - k := by simp [downI]

set_option maxRecDepth 100000 in
set_option maxHeartbeats 2000000 in
theorem back136 (F : Fence) (n : Nat) (hF : F.fn 136) (hro : F.round = none) (hn : 1 ≤ n) (l Bs nb : Nat) (a : Option Addr) (c : Nat) (ids : List Int) (hkl : ids.length ≤ 2) (J Jx : List (Nat × Int) → World → Prop)
    (hY : ∀ pre (x : Nat × Int) W, J pre W → pre.length < ids.length → YieldAt F (n - 1) Tryd.prog l #[.int .i64 (x.1 : Int), .int .i64 x.2] W fun e W' =>
      (e = .returned (.bool true) ∧ J (pre ++ [x]) W' ∧ Two Bs nb W W') ∨ (e = .returned (.bool false) ∧ Jx (pre ++ [x]) W'))
    (W : World) (hBs : W.cell? ⟨Bs, 0, none⟩ = some (.slice a ids.length c)) (hp : IntsAt W a nb ids) (h0 : J [] W) :
    CallsIn F n Tryd.prog 136 #[.func (.yield l) #[] #[], .pointer (some ⟨Bs, 0, none⟩)] W fun e W' => (∃ v, e = .returned v) ∧
      ((∃ ys, ys = downI ids 0 ∧ J ys W') ∨ (∃ pre, True ∧ Jx pre W')) := by
  refine callsIn_of_wp Tryd.func136 rfl hF ?_ hro
  simp only [Tryd.ntmps136, List.size_toArray, List.length_cons, List.length_nil, Nat.reduceAdd, Nat.reduceSub, Array.replicate_succ, Array.replicate_zero, List.push_toArray, List.append_toArray, List.nil_append, List.cons_append]
  gi_wp2
  gi_loopw [3] (fun i wr => ∃ k : Nat, k ≤ ids.length ∧ i = .int .i64 ((k : Int) - 1) ∧ J (downI ids k) wr ∧ Two Bs nb W wr)
    (fun i _ => (intOf i + 1).toNat)
  case atStart => exact ⟨ids.length, Nat.le_refl _, rfl, by simpa [downI] using h0, Two.refl _ _ _⟩
  case round =>
    obtain ⟨k, hk, rfl, hJs, hnx⟩ := hrel
    have hB' := hnx.cell.trans hBs
    by_cases hlt : 0 < k
    · obtain ⟨m, rfl⟩ : ∃ m, k = m + 1 := ⟨k - 1, by omega⟩
      obtain ⟨x, hx⟩ : ∃ x, ids[m]? = some x := ⟨ids[m], List.getElem?_eq_getElem (by omega)⟩
      have hxd : ids.getD m 0 = x := by simp [List.getD, hx]
      obtain ⟨rfl, hcx0⟩ := hp m x hx
      have hcx : wr.cell? ⟨nb, m, none⟩ = some (.int .i64 x) := hnx.cell2.trans hcx0
      obtain ⟨fn, tmps, assign, body, hy, hR⟩ := hY _ (m, x) wr hJs (by rw [downI_length]; omega)
      dsimp only at hy
      have e1 : (((m + 1 : Nat) : Int) - 1) = (m : Int) := by omega
      rw [e1]
      have hml : (m : Int) < (ids.length : Int) := by omega
      have HX : Hid (ids.getD m 0 = x) := hxd
      clear hcx0 hx hxd
      gi_wp2
      refine hR.mono ?_
      rintro e W3 (⟨rfl, hJ3, hk3⟩ | ⟨rfl, hJx3⟩)
      · gi_wp2
        go_roundw
        case rel => exact ⟨m, by omega, by simp, by rw [downI_step ids m (by omega), HX.out]; exact hJ3, hnx.trans hk3⟩
        case measure => simp [intOf]
      · gi_wp2
        refine bodyPost_ret (results_none rfl _ _ _) rfl ?_
        exact ⟨⟨_, rfl⟩, .inr ⟨_, trivial, hJx3⟩⟩
    · obtain rfl : k = 0 := by omega
      gi_wp2
      go_end0
      exact ⟨⟨_, rfl⟩, .inl ⟨_, rfl, hJs⟩⟩

set_option maxRecDepth 100000 in
set_option maxHeartbeats 1000000 in
theorem back134 (a : Option Addr) (len cap : Nat) (w : World) :
    Calls Tryd.prog 134 #[.slice a len cap] w fun e w' => e = .returned (.func (.func 136) #[] #[.pointer (some ⟨w.heap.size, 0, none⟩)]) ∧ w' = w.alloc (.cells #[.slice a len cap] 46) := by
  go_enter Tryd.func134, Tryd.ntmps134
  go_wp2
  go_ret
  exact ⟨rfl, rfl⟩

set_option maxRecDepth 100000 in
set_option maxHeartbeats 1000000 in
theorem kids127 (w : World) (L bx j : Nat) (ns : List Nd) (x : Nd) (hb : w.cell? ⟨bx, 0, none⟩ = some (.pointer (some ⟨L, 0, none⟩))) (h : LRead w L ns) (hx : ns[j]? = some x) :
    Calls Tryd.prog 127 #[.int .i64 (j : Int), .pointer (some ⟨bx, 0, none⟩)] w fun e w' => ∃ a c, e = .returned (.tuple #[.slice a (kidsL x).length c, .bool true]) ∧ NewInts w w' a (kidsL x) ∧ Kept (fun _ => False) w w' := by
  obtain ⟨la, lc, h1, h2, h3⟩ := h
  obtain ⟨g, rfl, a0, a1, a2, a3⟩ := h3 j x hx
  have hjn : j < ns.length := (List.getElem?_eq_some_iff.1 hx).1
  have hjni : (j : Int) < (ns.length : Int) := by omega
  have HV : Hid (x.v = .agg #[.int .i64 x.op, .int .i64 x.n, .int .i64 x.l, .int .i64 x.r]) := rfl
  clear hx h3
  go_enter Tryd.func127, Tryd.ntmps127
  go_wp2_with (go_at_call 63; rw [← HV.out]; refine (kids63 _ x).mono ?_; rintro e w2 ⟨a, c, rfl, hn, hk⟩)
  go_ret2
  exact ⟨a, c, rfl, hn, hk⟩

theorem int1 (w : World) (x : Int) (t : TypeId) : ∀ j u, [Value.int .i64 x][j]? = some u → (w.alloc (.cells #[.int .i64 x] t)).cell? ((⟨w.heap.size, 0, none⟩ : Addr).add j) = some u := by
  intro j u h
  match j, h with
  | 0, h => simp at h; subst h; simp [Addr.add]

set_option maxRecDepth 100000 in
set_option maxHeartbeats 1000000 in
theorem order129 (w : World) (base bo : Nat) (ov : Value) (od : List Int) (x : Int) (a : Option Addr) (l c : Nat) (hc : w.cell? ⟨bo, 0, none⟩ = some ov) (hf : w.frozen? ⟨bo, 0, none⟩ = false) (ho : w.ownsRow base 3 1 ov od.length (od.map (Value.int .i64))) (hb : base ≤ w.heap.size) (hob : ov.ownBlock ≠ some bo) (hl : od.length ≤ 1073741824) :
    Calls Tryd.prog 129 #[.int .i64 x, .slice a l c, .pointer (some ⟨bo, 0, none⟩)] w fun e w' => e = .returned (.int .i64 x) ∧ ∃ ov', w'.cell? ⟨bo, 0, none⟩ = some ov' ∧ w'.frozen? ⟨bo, 0, none⟩ = false ∧ w'.ownsRow base 3 1 ov' (od.length + 1) ((od ++ [x]).map (Value.int .i64)) ∧ Kept (fun k => k = bo ∨ some k = ov.ownBlock) w w' ∧ (ov'.ownBlock = ov.ownBlock ∨ ∃ k, ov'.ownBlock = some k ∧ w.heap.size ≤ k) ∧ ov'.ownBlock ≠ some bo := by
  obtain ⟨i3, hi3, hz30, hz31, hz32⟩ := info_parts info3
  have hbl : bo < w.heap.size := lt_of_cell hc
  obtain ⟨oa, on, oc, rfl⟩ : ∃ oa on oc, ov = .slice oa on oc := by
    rcases ho.2 with ⟨rfl, _⟩ | ⟨g, cap, cur, rfl, _⟩
    · exact ⟨_, _, _, rfl⟩
    · exact ⟨_, _, _, rfl⟩
  go_enter Tryd.func129, Tryd.ntmps129
  go_wp2_with (at_builtin; go_must (refine wpList_append_own_at _ rfl _ _ 46 rfl base 3 i3 (.int .i64 0) 1 8 Tryd.underlying46 hi3 hz30 hz31 hz32 rfl (by decide) _ od.length _ rfl (ho.alloc _) ⟨w.heap.size, 0, none⟩ 1 1 [.int .i64 x] rfl rfl (int1 _ _ _) (by intro y hy; simp at hy; subst hy; rfl) (by unfold maxLen; omega) (by omega) (by simp; omega) ?_); intro ov5 w5 hown5 hgrow5 hnil5 hloc5; obtain ⟨oa5, on5, oc5, rfl⟩ : ∃ oa on oc, ov5 = .slice oa on oc := (by rcases hown5.2 with ⟨h, _⟩ | ⟨g, cap, cur, h, _⟩; exact ⟨_, _, _, h⟩; exact ⟨_, _, _, h⟩); have k5 : Kept (fun k => some k = (Value.slice oa on oc).ownBlock) w w5 := ((Kept.refl _ _).alloc _).grown hgrow5 (fun k _ e => e); have c5 := (k5.cell (p := ⟨bo, 0, none⟩) hbl (fun e => hob e.symm)).trans hc; have f5 := (k5.frozen (p := ⟨bo, 0, none⟩) hbl (fun e => hob e.symm)).trans hf)
  have hob5 : (Value.slice oa5 on5 oc5).ownBlock ≠ some bo := fun e => by
    rcases hloc5 with h | h
    · exact hob (h.symm.trans e)
    · have := Option.some.inj (h.symm.trans e)
      simp at this
      omega
  go_ret
  refine ⟨rfl, _, by simp [go_sem, c5], by simp [go_sem, f5], ?_, (k5.mono (T := fun k => k = bo ∨ some k = (Value.slice oa on oc).ownBlock) (fun _ _ e => .inr e)).setCell (p := ⟨bo, 0, none⟩) (fun _ => .inl rfl) _, ?_, hob5⟩
  · refine ownsRow_of_block (by simpa using hown5) (fun k hk => Below.heap_setCell _ _ _ _ (fun e => hob5 (by rw [← hk, e])))
  · rcases hloc5 with h | h
    · exact .inl h
    · exact .inr ⟨_, h, by simp⟩
end Go.Proofs.YtdbpdanocpfboaaDoor
