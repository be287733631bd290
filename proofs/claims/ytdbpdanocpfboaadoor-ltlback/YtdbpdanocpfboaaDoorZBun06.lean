import Derived.Test.YtdbpdanocpfboaaDoorZWalk
import Derived.Test.YtdbpdanocpfboaaDoorZBun01
import Derived.Test.YtdbpdanocpfboaaDoorZBun02
/- Walks of package nodes: Of. -/
namespace Go.Proofs.YtdbpdanocpfboaaDoor
open Go.RowKit

/-- the value v is the Form t; all that it leads to lies below block B -/
def FormV (B : Nat) (w : World) (v : Value) : Tr → Prop
  | .mk op n kids => ∃ ka kb ko kc, v = .agg #[.int .i64 op, .int .i64 n, .slice ka kids.length kc] ∧ (0 < kids.length → ka = some ⟨kb, ko, none⟩) ∧ FormsAt B w kb ko kids

theorem FormV.below {B : Nat} {w w' : World} {v : Value} {t : Tr} (h : FormV B w v t) (hb : Below B w w') : FormV B w' v t := by
  cases t with
  | mk op n kids =>
    obtain ⟨ka, kb, ko, kc, e, h1, h2⟩ := h
    exact ⟨ka, kb, ko, kc, e, h1, FormsAt.below hb h2⟩
theorem FormV.mono {B B' : Nat} {w : World} {v : Value} {t : Tr} (h : FormV B w v t) (hB : B ≤ B') : FormV B' w v t := by
  cases t with
  | mk op n kids =>
    obtain ⟨ka, kb, ko, kc, e, h1, h2⟩ := h
    exact ⟨ka, kb, ko, kc, e, h1, FormsAt.mono hB h2⟩

theorem push4 {α : Type} (h : Array α) (a b c d : α) : ((((h.push a).push b).push c).push d)[h.size]? = some a ∧ ((((h.push a).push b).push c).push d)[h.size + 1]? = some b ∧ ((((h.push a).push b).push c).push d)[h.size + 1 + 1]? = some c ∧ ((((h.push a).push b).push c).push d)[h.size + 1 + 1 + 1]? = some d := by
  refine ⟨?_, ?_, ?_, ?_⟩
  · rw [Array.getElem?_push, if_neg (by simp only [Array.size_push]; omega), Array.getElem?_push, if_neg (by simp only [Array.size_push]; omega), Array.getElem?_push, if_neg (by simp only [Array.size_push]; omega), Array.getElem?_push, if_pos rfl]
  · rw [Array.getElem?_push, if_neg (by simp only [Array.size_push]; omega), Array.getElem?_push, if_neg (by simp only [Array.size_push]; omega), Array.getElem?_push, if_pos (by simp only [Array.size_push])]
  · rw [Array.getElem?_push, if_neg (by simp only [Array.size_push]; omega), Array.getElem?_push, if_pos (by simp only [Array.size_push])]
  · rw [Array.getElem?_push, if_pos (by simp only [Array.size_push])]

set_option maxRecDepth 100000 in
set_option maxHeartbeats 2000000 in
theorem of49 (w : World) (B : Nat) (v : Value) (t : Tr) (hv : FormV B w v t) (hB : B ≤ w.heap.size) (hT : TabK w) (hB2 : 2 ≤ B) (hsz : t.size ≤ 268435456) :
    Calls Tryd.prog 49 #[v] w fun e w' => Kept (fun _ => False) w w' ∧ ((¬ t.well ∧ e = .returned (.tuple #[.pointer none, .bool false])) ∨
      (t.well ∧ ∃ L bm nv ns, e = .returned (.tuple #[.pointer (some ⟨L, 0, none⟩), .bool true]) ∧ LIn w' (w.heap.size + 1) L bm nv ns ∧ Den ns ((ns.length : Int) - 1) t ∧ Ord ns ∧ ns.length ≤ 2 * t.size)) := by
  obtain ⟨op, n, kids⟩ := t
  obtain ⟨ka, kb, ko, kc, rfl, hka, hkF⟩ := hv
  go_enter Tryd.func49, Tryd.ntmps49
  go_wp2_with (go_at_call 79; refine (new79 _).mono ?_; rintro e w' ⟨rfl, rfl⟩)
  generalize hW : ((((w.alloc (.cells #[.int .i64 op, .int .i64 n, .slice ka kids.length kc] 24)).alloc (.map #[] 0)).alloc (.cells #[.slice none 0 0, .map (some (w.heap.size + 1))] 128)).alloc (.cells #[.pointer (some ⟨w.heap.size + 1 + 1, 0, none⟩)] 80)) = W
  have hh : W.heap = (((w.heap.push (.cells #[.int .i64 op, .int .i64 n, .slice ka kids.length kc] 24)).push (.map #[] 0)).push (.cells #[.slice none 0 0, .map (some (w.heap.size + 1))] 128)).push (.cells #[.pointer (some ⟨w.heap.size + 1 + 1, 0, none⟩)] 80) := by subst hW; rfl
  have hk : Kept (fun _ => False) w W := by subst hW; exact ((((Kept.refl _ _).alloc _).alloc _).alloc _).alloc _
  have g0 : W.heap[w.heap.size]? = some (.cells #[.int .i64 op, .int .i64 n, .slice ka kids.length kc] 24 (0, 0)) := by rw [hh]; exact (push4 _ _ _ _ _).1
  have g1 : W.heap[w.heap.size + 1]? = some (.map #[] 0) := by rw [hh]; exact (push4 _ _ _ _ _).2.1
  have g2 : W.heap[w.heap.size + 1 + 1]? = some (.cells #[.slice none 0 0, .map (some (w.heap.size + 1))] 128 (0, 0)) := by rw [hh]; exact (push4 _ _ _ _ _).2.2.1
  have g3 : W.heap[w.heap.size + 1 + 1 + 1]? = some (.cells #[.pointer (some ⟨w.heap.size + 1 + 1, 0, none⟩)] 80 (0, 0)) := by rw [hh]; exact (push4 _ _ _ _ _).2.2.2
  have hs : W.heap.size = w.heap.size + 4 := by rw [hh]; simp
  clear hh hW
  have hlw : ∀ j, j < 12 → 1 < w.heap.size := fun j hj => lt_of_cell (hT j hj)
  have hL : LIn W (w.heap.size + 1) (w.heap.size + 1 + 1) (w.heap.size + 1) (.slice none 0 0) [] :=
    { c0 := by simp [World.cell?, g2]
      c1 := by simp [World.cell?, g2]
      f0 := by simp [World.frozen?, g2]
      own := World.ownsRow_nil _ _ _ _
      map := ⟨fun _ => none, ⟨#[], 0, g1, by simp, by simp, by simp, by simp⟩, fun x => by simp [numOf]⟩
      sepL := by simp [Value.ownBlock]
      sepM := by simp [Value.ownBlock]
      bL := by omega
      bM := by omega
      len := by simp }
  have hB1 : Below B w W := hk.below hB (fun _ f => f.elim)
  have hF : FormAt (w.heap.size + 1) W w.heap.size 0 (.mk op n kids) :=
    ⟨by omega, ⟨_, _, g0⟩, by simp [World.cell?, g0], by simp [World.cell?, g0], ka, kb, ko, kc, by simp [World.cell?, g0], hka, FormsAt.mono (by omega) (FormsAt.below hB1 hkF)⟩
  have hTW : TabK W := fun j hj => (hk.cell (p := ⟨1, j, none⟩) (hlw j hj) (fun f => f)).trans (hT j hj)
  have hbx : W.cell? ⟨w.heap.size + 1 + 1 + 1, 0, none⟩ = some (.pointer (some ⟨w.heap.size + 1 + 1, 0, none⟩)) := by simp [World.cell?, g3]
  refine (walk85 W (w.heap.size + 1) (w.heap.size + 1 + 1) (w.heap.size + 1) (.slice none 0 0) (w.heap.size + 1 + 1 + 1) w.heap.size 0 (.mk op n kids) [] hL rfl hbx (by omega) (by omega) (by simp [Value.ownBlock]) (by omega) hTW (by omega) hF hsz).mono ?_
  rintro e w' ⟨hk2, hres⟩
  have hk3 : Kept (fun _ => False) w w' := hk.trans hk2 (fun k hk' e => by
    rcases e with e | e | e
    · omega
    · omega
    · cases e)
  rcases hres with ⟨hnw, rfl⟩ | ⟨hw, rfl, nv, ns, h1, h2, h3, h4, h5⟩
  · go_wp2
    go_ret2
    exact ⟨hk3, .inl ⟨hnw, rfl⟩⟩
  · have hbx2 : w'.cell? ⟨w.heap.size + 1 + 1 + 1, 0, none⟩ = some (.pointer (some ⟨w.heap.size + 1 + 1, 0, none⟩)) := (hk2.cell (p := ⟨w.heap.size + 1 + 1 + 1, 0, none⟩) (by simp; omega) (fun e => by
      rcases e with e | e | e
      · have e' : w.heap.size + 1 + 1 + 1 = w.heap.size + 1 + 1 := e
        omega
      · have e' : w.heap.size + 1 + 1 + 1 = w.heap.size + 1 := e
        omega
      · cases e)).trans hbx
    go_wp2
    go_ret2
    exact ⟨hk3, .inr ⟨hw, _, _, nv, ns, rfl, h1, h3, h4, h5⟩⟩
end Go.Proofs.YtdbpdanocpfboaaDoor

/- The law's helper that copies a formula. -/
namespace Go.Proofs.YtdbpdanocpfboaaDoor
open Go.RowKit

mutual
/-- the Form that lies at (b, o) reads as t; all of it in blocks of S -/
def FS (S : Nat → Prop) (w : World) (b o : Nat) : Tr → Prop
  | .mk op n kids => S b ∧ PlainB w b ∧ w.cell? ⟨b, o, none⟩ = some (.int .i64 op) ∧ w.cell? ⟨b, o + 1, none⟩ = some (.int .i64 n) ∧
      ∃ ka kb ko kc, w.cell? ⟨b, o + 2, none⟩ = some (.slice ka kids.length kc) ∧ (0 < kids.length → ka = some ⟨kb, ko, none⟩) ∧ FsS S w kb ko kids
def FsS (S : Nat → Prop) (w : World) (b o : Nat) : List Tr → Prop
  | [] => True
  | t :: r => FS S w b o t ∧ FsS S w b (o + 3) r
end
mutual
theorem FS.keep {S S' : Nat → Prop} {w w' : World} (hs : ∀ b, S b → S' b) (hb : ∀ b, S b → w'.heap[b]? = w.heap[b]?) {b o : Nat} : ∀ {t : Tr}, FS S w b o t → FS S' w' b o t
  | .mk op n kids, h => by
    obtain ⟨hB, hp, h0, h1, ka, kb, ko, kc, h2, hk, hf⟩ := h
    exact ⟨hs b hB, hp.of_block (hb b hB), (World.cell?_of_block (w := w) (a := ⟨b, o, none⟩) (hb b hB)).trans h0, (World.cell?_of_block (w := w) (a := ⟨b, o + 1, none⟩) (hb b hB)).trans h1, ka, kb, ko, kc, (World.cell?_of_block (w := w) (a := ⟨b, o + 2, none⟩) (hb b hB)).trans h2, hk, FsS.keep hs hb hf⟩
theorem FsS.keep {S S' : Nat → Prop} {w w' : World} (hs : ∀ b, S b → S' b) (hb : ∀ b, S b → w'.heap[b]? = w.heap[b]?) {b o : Nat} : ∀ {l : List Tr}, FsS S w b o l → FsS S' w' b o l
  | [], _ => trivial
  | _ :: _, h => ⟨FS.keep hs hb h.1, FsS.keep hs hb h.2⟩
end
mutual
theorem FS.form {S : Nat → Prop} {B : Nat} {w : World} (hs : ∀ b, S b → b < B) {b o : Nat} : ∀ {t : Tr}, FS S w b o t → FormAt B w b o t
  | .mk op n kids, h => by
    obtain ⟨hB, hp, h0, h1, ka, kb, ko, kc, h2, hk, hf⟩ := h
    exact ⟨hs b hB, hp, h0, h1, ka, kb, ko, kc, h2, hk, FsS.form hs hf⟩
theorem FsS.form {S : Nat → Prop} {B : Nat} {w : World} (hs : ∀ b, S b → b < B) {b o : Nat} : ∀ {l : List Tr}, FsS S w b o l → FormsAt B w b o l
  | [], _ => trivial
  | _ :: _, h => ⟨FS.form hs h.1, FsS.form hs h.2⟩
end
/-- the value v is the Form t, all of it in blocks of S -/
def FVS (S : Nat → Prop) (w : World) (v : Value) : Tr → Prop
  | .mk op n kids => ∃ ka kb ko kc, v = .agg #[.int .i64 op, .int .i64 n, .slice ka kids.length kc] ∧ (0 < kids.length → ka = some ⟨kb, ko, none⟩) ∧ FsS S w kb ko kids
theorem FVS.form {S : Nat → Prop} {B : Nat} {w : World} (hs : ∀ b, S b → b < B) {v : Value} {t : Tr} (h : FVS S w v t) : FormV B w v t := by
  cases t with
  | mk op n kids =>
    obtain ⟨ka, kb, ko, kc, e, h1, h2⟩ := h
    exact ⟨ka, kb, ko, kc, e, h1, FsS.form hs h2⟩

/-- the cells of a row of Forms -/
def FlatF (S : Nat → Prop) (W : World) : List Value → List Tr → Prop
  | cs, [] => cs = []
  | cs, .mk op n ks :: r => ∃ ka kb ko kc rest, cs = .int .i64 op :: .int .i64 n :: .slice ka ks.length kc :: rest ∧ (0 < ks.length → ka = some ⟨kb, ko, none⟩) ∧ FsS S W kb ko ks ∧ FlatF S W rest r
theorem FlatF.keep {S S' : Nat → Prop} {W W' : World} (hs : ∀ b, S b → S' b) (hb : ∀ b, S b → W'.heap[b]? = W.heap[b]?) : ∀ {l : List Tr} {cs : List Value}, FlatF S W cs l → FlatF S' W' cs l
  | [], _, h => h
  | .mk op n ks :: r, _, h => by
    obtain ⟨ka, kb, ko, kc, rest, e, h1, h2, h3⟩ := h
    exact ⟨ka, kb, ko, kc, rest, e, h1, FsS.keep hs hb h2, h3.keep hs hb⟩
theorem FlatF.snoc {S : Nat → Prop} {W : World} {op n : Int} {ks : List Tr} {ka : Option Addr} {kb ko kc : Nat} (h1 : 0 < ks.length → ka = some ⟨kb, ko, none⟩) (h2 : FsS S W kb ko ks) : ∀ {l : List Tr} {cs : List Value}, FlatF S W cs l → FlatF S W (cs ++ [.int .i64 op, .int .i64 n, .slice ka ks.length kc]) (l ++ [.mk op n ks])
  | [], _, h => by
    obtain rfl := h
    exact ⟨ka, kb, ko, kc, [], rfl, h1, h2, rfl⟩
  | .mk op' n' ks' :: r, _, h => by
    obtain ⟨ka', kb', ko', kc', rest, rfl, g1, g2, g3⟩ := h
    exact ⟨ka', kb', ko', kc', _, rfl, g1, g2, FlatF.snoc h1 h2 g3⟩
theorem FlatF.forms {S : Nat → Prop} {W : World} {g : Nat} (hg : S g) (hp : PlainB W g) : ∀ {l : List Tr} {cs : List Value} {o : Nat}, FlatF S W cs l → (∀ i u, cs[i]? = some u → W.cell? ⟨g, o + i, none⟩ = some u) → FsS S W g o l
  | [], _, _, _, _ => trivial
  | .mk op n ks :: r, _, o, h, hc => by
    obtain ⟨ka, kb, ko, kc, rest, rfl, h1, h2, h3⟩ := h
    refine ⟨⟨hg, hp, by simpa using hc 0 _ rfl, by simpa using hc 1 _ rfl, ka, kb, ko, kc, by simpa using hc 2 _ rfl, h1, h2⟩, FlatF.forms hg hp h3 (fun i u hi => ?_)⟩
    have := hc (i + 3) u (by simpa using hi)
    rwa [show o + (i + 3) = o + 3 + i by omega] at this
theorem own_cells {w : World} {base g cap n : Nat} {e : TypeId} {size : Nat} {xs : List Value} (h : w.ownsRow base e size (.slice (some ⟨g, 0, none⟩) n cap) n xs) : PlainB w g ∧ g < w.heap.size ∧ ∀ i u, xs[i]? = some u → w.cell? ⟨g, 0 + i, none⟩ = some u := by
  obtain ⟨h1, h2⟩ := h
  rcases h2 with ⟨e, _⟩ | ⟨g', cap', cur, e, hb, hh, hc, hc2, hs, ht⟩
  · cases e
  · cases e
    refine ⟨⟨_, _, hh⟩, (Array.getElem?_eq_some_iff.1 hh).1, fun i u hi => ?_⟩
    have hl := (List.getElem?_eq_some_iff.1 hi).1
    rw [← ht, List.getElem?_take_of_lt (by omega)] at hi
    have h4 : cur[i]? = some u := by simpa using hi
    simp [World.cell?, hh, h4]

theorem info24 : (Tryd.prog.info? 24).map (fun i => (i.zero, i.size, i.bytes)) = some (some (.agg #[.int .i64 0, .int .i64 0, .slice none 0 0]), 3, 40) := by kernel_rfl

set_option maxRecDepth 100000 in
set_option maxHeartbeats 2000000 in
theorem given19 : ∀ (N : Nat) (t : Tr), t.size ≤ N → N ≤ 268435456 → ∀ (w : World) (B : Nat) (v : Value), RV B w v t → B ≤ w.heap.size →
    Calls Tryd.prog 19 #[v] w fun e w' => ∃ v', e = .returned v' ∧ Kept (fun _ => False) w w' ∧ FVS (fun b => w.heap.size ≤ b ∧ b < w'.heap.size) w' v' t := by
  intro N
  induction N with
  | zero => intro t ht; have := t.size_pos; omega
  | succ N ih =>
    intro t ht hN w B v hv hB
    obtain ⟨op, n, kids⟩ := t
    obtain ⟨ka, kb, ko, kc, rfl, hka, hks⟩ := hv
    obtain ⟨i0, hi, hz0, hz1, hz2⟩ := info_parts info24
    have IH : Hid (∀ (t : Tr), t.size ≤ N → N ≤ 268435456 → ∀ (w : World) (B : Nat) (v : Value), RV B w v t → B ≤ w.heap.size → Calls Tryd.prog 19 #[v] w fun e w' => ∃ v', e = .returned v' ∧ Kept (fun _ => False) w w' ∧ FVS (fun b => w.heap.size ≤ b ∧ b < w'.heap.size) w' v' t) := ih
    clear ih
    have hsz : Tr.sizes kids ≤ N := by simp only [Tr.size] at ht; omega
    have hkl : kids.length ≤ N := by
      have : ∀ l : List Tr, l.length ≤ Tr.sizes l := by
        intro l
        induction l with
        | nil => simp
        | cons t r ih => have := t.size_pos; simp [Tr.sizes]; omega
      exact Nat.le_trans (this kids) hsz
    obtain ⟨w1, hw1⟩ : ∃ w1, w1 = ((w.alloc (.cells #[.int .i64 op, .int .i64 n, .slice ka kids.length kc] 30)).alloc (.cells #[.int .i64 0, .int .i64 0, .slice none 0 0] 24)) := ⟨_, rfl⟩
    have k1 : Kept (fun _ => False) w w1 := by rw [hw1]; exact ((Kept.refl _ _).alloc _).alloc _
    have c0 : w1.cell? ⟨w.heap.size, 0, none⟩ = some (.int .i64 op) := by rw [hw1]; simp [go_sem]
    have c1 : w1.cell? ⟨w.heap.size, 1, none⟩ = some (.int .i64 n) := by rw [hw1]; simp [go_sem]
    have c2 : w1.cell? ⟨w.heap.size, 2, none⟩ = some (.slice ka kids.length kc) := by rw [hw1]; simp [go_sem]
    have r0 : w1.cell? ⟨w.heap.size + 1, 0, none⟩ = some (.int .i64 0) := by rw [hw1, World.cell?_alloc_at (hn := by simp)]; rfl
    have r1 : w1.cell? ⟨w.heap.size + 1, 1, none⟩ = some (.int .i64 0) := by rw [hw1, World.cell?_alloc_at (hn := by simp)]; rfl
    have r2 : w1.cell? ⟨w.heap.size + 1, 2, none⟩ = some (.slice none 0 0) := by rw [hw1, World.cell?_alloc_at (hn := by simp)]; rfl
    have fr : ∀ i, w1.frozen? ⟨w.heap.size + 1, i, none⟩ = false := fun i => by rw [hw1, World.frozen?_alloc_at (hn := by simp)]
    go_enter Tryd.func19, Tryd.ntmps19
    go_upto_region 1 with fail
    rw [← hw1]
    clear hw1
    have hl1 : w.heap.size + 1 < w1.heap.size := lt_of_cell r0
    have HKS : Hid (RsAt B w1 kb ko kids) := RsAt.below (k1.below hB (fun _ f => f.elim)) hks
    have hB1 := Nat.le_trans hB k1.size
    clear hks
    go_wp2
    go_loopw [3, 4, 5] (fun v3 v4 _ wr => ∃ k cs, k ≤ kids.length ∧ v4 = .int .i64 (k : Int) ∧ Kept (fun _ => False) w1 wr ∧ wr.ownsRow w1.heap.size 24 3 v3 k cs ∧ FlatF (fun b => w1.heap.size ≤ b ∧ b < wr.heap.size ∧ some b ≠ v3.ownBlock) wr cs (kids.take k)) (fun _ v4 _ _ => kids.length - (intOf v4).toNat)
    case atStart => exact ⟨0, [], Nat.zero_le _, rfl, Kept.refl _ _, ⟨rfl, .inl ⟨rfl, rfl⟩⟩, by simp [FlatF]⟩
    case round =>
      obtain ⟨k, cs, hk, rfl, hkr, hown, hfl⟩ := hrel
      have HOWN : Hid (wr.ownsRow w1.heap.size 24 3 u3 k cs) := hown
      have HFL : Hid (FlatF (fun b => w1.heap.size ≤ b ∧ b < wr.heap.size ∧ some b ≠ u3.ownBlock) wr cs (kids.take k)) := hfl
      have d0 := (hkr.cell (lt_of_cell c0) (fun f => f)).trans c0
      have d1 := (hkr.cell (lt_of_cell c1) (fun f => f)).trans c1
      have d2 := (hkr.cell (lt_of_cell c2) (fun f => f)).trans c2
      clear hown hfl
      by_cases hlt : k < kids.length
      · have hlti : (k : Int) < (kids.length : Int) := by omega
        have hka' := hka (by omega)
        subst hka'
        have HK : Hid (RAt B wr kb (ko + k * 3) kids[k]) := (RsAt.below (hkr.below hB1 (fun _ f => f.elim)) HKS.out).get (List.getElem?_eq_getElem hlt)
        obtain ⟨t', ht'⟩ : ∃ t', kids[k] = t' := ⟨_, rfl⟩
        have HTK : Hid (kids.take (k + 1) = kids.take k ++ [t']) := by rw [Hid, List.take_add_one, List.getElem?_eq_getElem hlt, ht']; rfl
        have hts : t'.size ≤ N := Nat.le_trans (Tr.sizes_mem (by rw [← ht']; exact List.getElem_mem hlt)) hsz
        rw [ht'] at HK
        clear ht'
        obtain ⟨op', n', ks'⟩ := t'
        obtain ⟨hbB, g0, g1, ka', kb', ko', kc', g2, hka', hks'⟩ := HK.out
        have HRV : Hid (RV B wr (.agg #[.int .i64 op', .int .i64 n', .slice ka' ks'.length kc']) (.mk op' n' ks')) := ⟨ka', kb', ko', kc', rfl, hka', hks'⟩
        have hBr := Nat.le_trans hB1 hkr.size
        clear HK hka' hks'
        go_upto_region 6 with (go_at_call 19; refine (IH.out (.mk op' n' ks') hts (by omega) _ B _ HRV.out hBr).mono ?_; rintro e w3 ⟨v', rfl, hk3, hF3⟩; obtain ⟨ka2, kb2, ko2, kc2, rfl, hka2, hks2⟩ := hF3)
        obtain ⟨W4, hW4⟩ : ∃ W4, W4 = w3.alloc (.cells #[.int .i64 op', .int .i64 n', .slice ka2 ks'.length kc2] 24) := ⟨_, rfl⟩
        have k4 : Kept (fun _ => False) w3 W4 := by rw [hW4]; exact (Kept.refl _ _).alloc _
        have m0 : W4.cell? ⟨w3.heap.size, 0, none⟩ = some (.int .i64 op') := by rw [hW4]; simp
        have m1 : W4.cell? ⟨w3.heap.size, 1, none⟩ = some (.int .i64 n') := by rw [hW4]; simp
        have m2 : W4.cell? ⟨w3.heap.size, 2, none⟩ = some (.slice ka2 ks'.length kc2) := by rw [hW4]; simp
        rw [← hW4]
        clear hW4
        have kr4 := hk3.trans k4 (fun _ _ f => f)
        have k14 := hkr.trans kr4 (fun _ _ f => f)
        have OWN4 : Hid (W4.ownsRow w1.heap.size 24 3 u3 k cs) := ownsRow_of_block HOWN.out (fun q hq => kr4.block q (ownsRow_lt HOWN.out hq).1 (fun f => f))
        have FL4 : Hid (FlatF (fun b => w1.heap.size ≤ b ∧ b < W4.heap.size ∧ some b ≠ u3.ownBlock) W4 (cs ++ [.int .i64 op', .int .i64 n', .slice ka2 ks'.length kc2]) (kids.take (k + 1))) := by
          rw [Hid, HTK.out]
          have hrs := hkr.size
          have h3s := hk3.size
          have h4s := k4.size
          refine FlatF.snoc hka2 (FsS.keep (fun b hb => ⟨by omega, by omega, fun e => ?_⟩) (fun b hb => k4.block b hb.2 (fun f => f)) hks2) (FlatF.keep (fun b hb => ⟨hb.1, by have := kr4.size; omega, hb.2.2⟩) (fun b hb => kr4.block b hb.2.1 (fun f => f)) HFL.out)
          have := (ownsRow_lt HOWN.out e).1
          omega
        clear HFL HOWN d0 d1 d2 HRV g0 g1 g2 hks2 hka2
        go_wp2_with (at_builtin; refine wpList_append_own_at _ rfl _ _ 22 rfl w1.heap.size 24 i0 _ 3 40 Tryd.underlying22 hi hz0 hz1 hz2 rfl (by decide) u3 k cs rfl (OWN4.out.alloc _) ⟨W4.heap.size, 0, none⟩ 1 1 [.int .i64 op', .int .i64 n', .slice ka2 ks'.length kc2] rfl rfl ?c1 ?c2 ?c3 ?c4 ?c5 ?_; rotate_left 5; intro v' w5 own5 gr5 _ ob5)
        case c1 =>
          intro j u hu
          match j with
          | 0 => simp only [List.getElem?_cons_zero, Option.some.injEq] at hu; subst hu; simp [Addr.add]
          | 1 => simp only [List.getElem?_cons_succ, List.getElem?_cons_zero, Option.some.injEq] at hu; subst hu; simp [Addr.add]
          | 2 => simp only [List.getElem?_cons_succ, List.getElem?_cons_zero, Option.some.injEq] at hu; subst hu; simp [Addr.add]
          | j + 3 => simp at hu
        case c2 => intro u hu; simp only [List.mem_cons, List.not_mem_nil, or_false] at hu; rcases hu with rfl | rfl | rfl <;> rfl
        case c3 => unfold maxLen; omega
        case c4 => omega
        case c5 => simp; exact Nat.le_trans k14.size (Nat.le_succ _)
        go_roundw
        case rel =>
          refine ⟨k + 1, _, by omega, by go_num, ?_, own5, ?_⟩
          · exact (k14.alloc _).grown gr5 (fun q h1 h2 => by have := (ownsRow_lt OWN4.out h2).2; omega)
          · have hs5 : W4.heap.size ≤ w5.heap.size := Nat.le_trans (by simp) gr5.size
            have hne : ∀ b, (w1.heap.size ≤ b ∧ b < W4.heap.size ∧ some b ≠ u3.ownBlock) → some b ≠ v'.ownBlock := fun b hb e => by
              rcases ob5 with o | o
              · exact hb.2.2 (by rw [e, o])
              · rw [o] at e
                have e' := Option.some.inj e
                simp at e'
                omega
            refine FlatF.keep (fun b hb => ⟨hb.1, by omega, hne b hb⟩) (fun b hb => ?_) FL4.out
            rw [gr5.block b (by simp; omega) (fun e => hb.2.2 e)]
            exact Below.heap_alloc _ _ _ hb.2.1
        case measure => simp [intOf]; omega
      · have hlti : ¬ (k : Int) < (kids.length : Int) := by omega
        have hkk : k = kids.length := by omega
        subst hkk
        have q0 := (hkr.cell (lt_of_cell r0) (fun f => f)).trans r0
        have q1 := (hkr.cell (lt_of_cell r1) (fun f => f)).trans r1
        have q2 := (hkr.cell (lt_of_cell r2) (fun f => f)).trans r2
        have f0 := (hkr.frozen (lt_of_cell r0) (fun f => f)).trans (fr 0)
        have f1 := (hkr.frozen (lt_of_cell r1) (fun f => f)).trans (fr 1)
        have f2 := (hkr.frozen (lt_of_cell r2) (fun f => f)).trans (fr 2)
        rw [List.take_length] at HFL
        have k1r := k1.trans hkr (fun _ _ f => f)
        have hs1 := k1.size
        obtain ⟨va, vc, hv3, hfs⟩ : ∃ va vc, u3 = .slice va kids.length vc ∧ ∃ vb vo, (0 < kids.length → va = some ⟨vb, vo, none⟩) ∧ FsS (fun b => w1.heap.size ≤ b ∧ b < wr.heap.size) wr vb vo kids := by
          rcases id HOWN.out.2 with ⟨e, e0⟩ | ⟨g, cap, cur, e, hb, hh, _⟩
          · have : kids = [] := List.length_eq_zero_iff.1 e0
            subst this
            exact ⟨none, 0, e, 0, 0, by simp, trivial⟩
          · refine ⟨some ⟨g, 0, none⟩, cap, e, g, 0, fun _ => rfl, ?_⟩
            have hown := HOWN.out
            rw [e] at hown
            obtain ⟨p1, p2, p3⟩ := own_cells hown
            exact FlatF.forms (S := fun b => w1.heap.size ≤ b ∧ b < wr.heap.size) ⟨hb, p2⟩ p1 (FlatF.keep (fun b hb => ⟨hb.1, hb.2.1⟩) (fun _ _ => rfl) HFL.out) p3
        subst hv3
        obtain ⟨vb, vo, hva, hfs⟩ := hfs
        have HFS : Hid (FsS (fun b => w1.heap.size ≤ b ∧ b < wr.heap.size) wr vb vo kids) := hfs
        have HVA : Hid (0 < kids.length → va = some ⟨vb, vo, none⟩) := hva
        clear hfs hva HOWN HFL hka
        go_wp2
        refine bodyPost_ret (v := .agg #[.int .i64 op, .int .i64 n, .slice va kids.length vc]) (by simp [results, Tryd.results19, go_sem, q0, q1, q2]) rfl ⟨_, rfl, ?_, ⟨va, vb, vo, vc, rfl, HVA.out, ?_⟩⟩
        · exact ((k1r.setCell (fun hh => absurd hh (by simp)) _).setCell (fun hh => absurd hh (by simp)) _).setCell (fun hh => absurd hh (by simp)) _
        · refine FsS.keep (fun b hb => ⟨by omega, by simp [World.setCell]; omega⟩) (fun b hb => ?_) HFS.out
          have hne : b ≠ w.heap.size + 1 := by omega
          rw [Below.heap_setCell _ _ _ _ hne, Below.heap_setCell _ _ _ _ hne, Below.heap_setCell _ _ _ _ hne]
end Go.Proofs.YtdbpdanocpfboaaDoor

/- The document's own answer: is a Form a formula of letters? -/
namespace Go.Proofs.YtdbpdanocpfboaaDoor
open Go.RowKit

theorem ret_bool {a b : Bool} (h : a = b) : Ending.returned (.bool a) = .returned (.bool b) := by rw [h]
theorem ret_int {a b : Int} (h : a = b) : Ending.returned (.int .i64 a) = .returned (.int .i64 b) := by rw [h]

def kidR (op : Int) : Int := if 0 ≤ op ∧ op < 12 then kidC op else -1
def wellNB (op n : Int) (kl : Nat) : Bool := decide (0 ≤ op ∧ op < 12 ∧ (kl : Int) = kidC op ∧ 0 ≤ n ∧ n ≤ topN op)
theorem wellNB_iff (op n : Int) (kl : Nat) : wellNB op n kl = true ↔ wellN op n kl := by simp [wellNB, wellN]
mutual
def wellB : Tr → Bool
  | .mk o m k => wellNB o m k.length && wellsB k
def wellsB : List Tr → Bool
  | [] => true
  | t :: r => wellB t && wellsB r
end
mutual
theorem wellB_iff : ∀ t : Tr, wellB t = true ↔ t.well
  | .mk o m k => by simp [wellB, Tr.well, wellNB_iff, wellsB_iff k]
theorem wellsB_iff : ∀ l : List Tr, wellsB l = true ↔ Tr.wells l
  | [] => by simp [wellsB, Tr.wells]
  | t :: r => by simp [wellsB, Tr.wells, wellB_iff t, wellsB_iff r]
end
theorem wellsB_all : ∀ l : List Tr, wellsB l = true ↔ ∀ j (h : j < l.length), wellB l[j] = true
  | [] => by simp [wellsB]
  | t :: r => by
    simp only [wellsB, Bool.and_eq_true, wellsB_all r]
    constructor
    · rintro ⟨h1, h2⟩ j hj
      match j with
      | 0 => exact h1
      | j + 1 => exact h2 j (by simpa using hj)
    · intro h
      exact ⟨h 0 (by simp), fun j hj => h (j + 1) (by simpa using hj)⟩

set_option maxRecDepth 100000 in
set_option maxHeartbeats 1000000 in
theorem kids59 (w : World) (op : Int) : Calls Tryd.prog 58 #[.int .i64 op] w fun e w' => Kept (fun _ => False) w w' ∧ e = .returned (.int .i64 (kidR op)) := by
  by_cases h : 0 ≤ op ∧ op < 12
  · obtain ⟨m, rfl⟩ : ∃ m : Nat, op = m := ⟨op.toNat, by omega⟩
    have hm : m < 12 := by omega
    match m, hm with
    | 0, _ | 1, _ | 2, _ | 3, _ | 4, _ | 5, _ | 6, _ | 7, _ | 8, _ | 9, _ | 10, _ | 11, _ =>
      go_enter Tryd.func58, Tryd.ntmps58
      go_wp2
      go_ret
      exact ⟨Kept.refl _ _, ret_int (by decide)⟩
  · have e0 : (op == 0) = false := by simp; omega
    have e1 : (op == 1) = false := by simp; omega
    have e2 : (op == 2) = false := by simp; omega
    have e3 : (op == 3) = false := by simp; omega
    have e4 : (op == 4) = false := by simp; omega
    have e5 : (op == 5) = false := by simp; omega
    have e6 : (op == 6) = false := by simp; omega
    have e7 : (op == 7) = false := by simp; omega
    have e8 : (op == 8) = false := by simp; omega
    have e9 : (op == 9) = false := by simp; omega
    have e10 : (op == 10) = false := by simp; omega
    have e11 : (op == 11) = false := by simp; omega
    have HE : Hid (kidR op = -1) := by rw [Hid, kidR, if_neg h]
    clear h
    go_enter Tryd.func58, Tryd.ntmps58
    go_wp2
    go_ret
    exact ⟨Kept.refl _ _, ret_int HE.out.symm⟩

/-- a goal that is not to be looked into -/
structure Blk (p : Prop) : Prop where
  out : p
theorem blk_step {P : Program} {ops : Array Oper} {C : World → Prop} {Q : Act → Prop} {a : Act} {o : Oper} {rest : List Oper}
    (h : ∀ K : Act → Prop, (∀ a, Blk (wpQuiet P ops C Q rest a) → K a) → if Region.wanted o (yielded ops a.tmps) then o.quiet P a C K else K (a.put o.dst undef)) : Blk (wpQuiet P ops C Q (o :: rest) a) :=
  ⟨wpQuiet_step fun K hK => h K fun a ha => hK a ha.out⟩
theorem blk_nil {P : Program} {ops : Array Oper} {C : World → Prop} {Q : Act → Prop} {a : Act} (h : Q a) : Blk (wpQuiet P ops C Q [] a) := ⟨wpQuiet_nil h⟩
theorem wp_region_blk_kept {P : Program} {id : Nat} {Q : Exit → Act → World → Prop} {a : Act} {w : World} {l : List Oper} (hm : P.follows .mixedOrders = true) (hB : Region.lexB .any l.toArray = true)
    (h : Blk (wpQuiet P l.toArray (fun w' => ∃ U : KW w, w' = U.1) (fun a' => ∀ w', (∃ U : KW w, w' = U.1) → Q .normal a' w') l a)) : (Code.region id l.toArray true).wp P Q a w :=
  wp_region_quiet_kept hm hB h.out
theorem kids59r (w : World) (op kr : Int) (h : kidR op = kr) : Calls Tryd.prog 58 #[.int .i64 op] w fun e w' => Kept (fun _ => False) w w' ∧ e = .returned (.int .i64 kr) := by
  subst h
  exact kids59 w op
theorem wellNB_no {op n : Int} {kl : Nat} (h : kidR op ≠ (kl : Int) ∨ n < 0 ∨ 8 ≤ n ∨ (op ≠ 2 ∧ n ≠ 0)) : wellNB op n kl = false := by
  cases hb : wellNB op n kl with
  | false => rfl
  | true =>
    obtain ⟨h1, h2, h3, h4, h5⟩ := (wellNB_iff op n kl).1 hb
    rw [kidR, if_pos ⟨h1, h2⟩] at h
    unfold topN at h5
    split at h5 <;> omega
theorem wellNB_yes {op n : Int} {kl : Nat} (h : kidR op = (kl : Int)) (h0 : 0 ≤ n) (h1 : n < 8) (h2 : op = 2 ∨ n = 0) : wellNB op n kl = true := by
  refine (wellNB_iff op n kl).2 ?_
  unfold kidR at h
  split at h
  · rename_i hh
    refine ⟨hh.1, hh.2, h.symm, h0, ?_⟩
    unfold topN
    split <;> omega
  · omega

set_option maxRecDepth 100000 in
set_option maxHeartbeats 4000000 in
theorem well24 : ∀ (N : Nat) (t : Tr), t.size ≤ N → ∀ (w : World) (B : Nat) (v : Value), RV B w v t → B ≤ w.heap.size → N ≤ 268435456 →
    Calls Tryd.prog 24 #[v] w fun e w' => Kept (fun _ => False) w w' ∧ e = .returned (.bool (wellB t)) := by
  intro N
  induction N with
  | zero => intro t ht; have := t.size_pos; omega
  | succ N ih =>
    intro t ht w B v hv hB hN
    obtain ⟨op, n, kids⟩ := t
    obtain ⟨ka, kb, ko, kc, rfl, hka, hks⟩ := hv
    have IH : Hid (∀ (t : Tr), t.size ≤ N → ∀ (w : World) (B : Nat) (v : Value), RV B w v t → B ≤ w.heap.size → N ≤ 268435456 → Calls Tryd.prog 24 #[v] w fun e w' => Kept (fun _ => False) w w' ∧ e = .returned (.bool (wellB t))) := ih
    clear ih
    have hsz : Tr.sizes kids ≤ N := by simp only [Tr.size] at ht; omega
    have hkl : kids.length ≤ N := by
      have : ∀ l : List Tr, l.length ≤ Tr.sizes l := by
        intro l
        induction l with
        | nil => simp
        | cons t r ih => have := t.size_pos; simp [Tr.sizes]; omega
      exact Nat.le_trans (this kids) hsz
    obtain ⟨w1, hw1⟩ : ∃ w1, w1 = w.alloc (.cells #[.int .i64 op, .int .i64 n, .slice ka kids.length kc] 30) := ⟨_, rfl⟩
    have k1 : Kept (fun _ => False) w w1 := by rw [hw1]; exact (Kept.refl _ _).alloc _
    have c0 : w1.cell? ⟨w.heap.size, 0, none⟩ = some (.int .i64 op) := by rw [hw1]; simp [go_sem]
    have c1 : w1.cell? ⟨w.heap.size, 1, none⟩ = some (.int .i64 n) := by rw [hw1]; simp [go_sem]
    have c2 : w1.cell? ⟨w.heap.size, 2, none⟩ = some (.slice ka kids.length kc) := by rw [hw1]; simp [go_sem]
    go_enter Tryd.func24, Tryd.ntmps24
    go_upto_region 1 with fail
    rw [← hw1]
    clear hw1
    have HKS : Hid (RsAt B w1 kb ko kids) := RsAt.below (k1.below hB (fun _ f => f.elim)) hks
    have hB1 := Nat.le_trans hB k1.size
    have HKA : Hid (0 < kids.length → ka = some ⟨kb, ko, none⟩) := hka
    clear hks hka ht
    have U0 : ∀ U : KW w1, U.1.cell? ⟨w.heap.size, 0, none⟩ = some (.int .i64 op) := fun U => U.cell c0
    have U1 : ∀ U : KW w1, U.1.cell? ⟨w.heap.size, 1, none⟩ = some (.int .i64 n) := fun U => U.cell c1
    have U2 : ∀ U : KW w1, U.1.cell? ⟨w.heap.size, 2, none⟩ = some (.slice ka kids.length kc) := fun U => U.cell c2
    obtain ⟨kr, hkr⟩ : ∃ kr, kidR op = kr := ⟨_, rfl⟩
    have HKR : Hid (kidR op = kr) := hkr
    go_cut [31] (fun v31 wc => Kept (fun _ => False) w1 wc ∧ v31 = .bool (!wellNB op n kids.length))
    case first =>
      by_cases hA : kr = (kids.length : Int)
      · have bA : (kr != (kids.length : Int)) = false := by simpa using hA
        by_cases hBn : n < 0
        · have HNB : Hid (wellNB op n kids.length = false) := wellNB_no (.inr (.inl hBn))
          clear hkr hA
          refine wp_region_blk_kept (by kernel_rfl) (by kernel_rfl) ?_
          repeat (refine blk_step (fun K hK => ?_); go_simp; first | (refine hK _ ?_; clear hK K) | (apply Exists.intro; refine ⟨fun U => ?_, hK _ ?_⟩; (go_at_call 58; exact Calls.quiet_kept (kids59r _ _ kr HKR.out)); clear hK K))
          refine blk_nil ?_
          intro w4 hw'
          have k4 : Kept (fun _ => False) w1 w4 := by
            obtain ⟨U, rfl⟩ := hw'
            exact U.2
          clear hw'
          go_wp2_with fail
          go_meet
          case rel => exact ⟨k4, by simp [HNB.out]⟩
        · by_cases hCn : 8 ≤ n
          · have HNB : Hid (wellNB op n kids.length = false) := wellNB_no (.inr (.inr (.inl hCn)))
            clear hkr hA
            refine wp_region_blk_kept (by kernel_rfl) (by kernel_rfl) ?_
            repeat (refine blk_step (fun K hK => ?_); go_simp; first | (refine hK _ ?_; clear hK K) | (apply Exists.intro; refine ⟨fun U => ?_, hK _ ?_⟩; (go_at_call 58; exact Calls.quiet_kept (kids59r _ _ kr HKR.out)); clear hK K))
            refine blk_nil ?_
            intro w4 hw'
            have k4 : Kept (fun _ => False) w1 w4 := by
              obtain ⟨U, rfl⟩ := hw'
              exact U.2
            clear hw'
            go_wp2_with fail
            go_meet
            case rel => exact ⟨k4, by simp [HNB.out]⟩
          · have hCi : ¬ (n ≥ 8) := by omega
            by_cases hD : op = 2
            · have HNB : Hid (wellNB op n kids.length = true) := wellNB_yes (by rw [hkr, hA]) (by omega) (by omega) (.inl hD)
              clear hkr hA
              subst hD
              refine wp_region_blk_kept (by kernel_rfl) (by kernel_rfl) ?_
              repeat (refine blk_step (fun K hK => ?_); go_simp; first | (refine hK _ ?_; clear hK K) | (apply Exists.intro; refine ⟨fun U => ?_, hK _ ?_⟩; (go_at_call 58; exact Calls.quiet_kept (kids59r _ _ kr HKR.out)); clear hK K))
              refine blk_nil ?_
              intro w4 hw'
              have k4 : Kept (fun _ => False) w1 w4 := by
                obtain ⟨U, rfl⟩ := hw'
                exact U.2
              clear hw'
              go_wp2_with fail
              go_meet
              case rel => exact ⟨k4, by simp [HNB.out]⟩
            · have bD : (op != 2) = true := by simpa using hD
              by_cases hE : n = 0
              · have HNB : Hid (wellNB op n kids.length = true) := wellNB_yes (by rw [hkr, hA]) (by omega) (by omega) (.inr hE)
                clear hkr hA
                subst hE
                refine wp_region_blk_kept (by kernel_rfl) (by kernel_rfl) ?_
                repeat (refine blk_step (fun K hK => ?_); go_simp; first | (refine hK _ ?_; clear hK K) | (apply Exists.intro; refine ⟨fun U => ?_, hK _ ?_⟩; (go_at_call 58; exact Calls.quiet_kept (kids59r _ _ kr HKR.out)); clear hK K))
                refine blk_nil ?_
                intro w4 hw'
                have k4 : Kept (fun _ => False) w1 w4 := by
                  obtain ⟨U, rfl⟩ := hw'
                  exact U.2
                clear hw'
                go_wp2_with fail
                go_meet
                case rel => exact ⟨k4, by simp [HNB.out]⟩
              · have HNB : Hid (wellNB op n kids.length = false) := wellNB_no (.inr (.inr (.inr ⟨hD, hE⟩)))
                have bE : (n != 0) = true := by simpa using hE
                clear hkr hA
                refine wp_region_blk_kept (by kernel_rfl) (by kernel_rfl) ?_
                repeat (refine blk_step (fun K hK => ?_); go_simp; first | (refine hK _ ?_; clear hK K) | (apply Exists.intro; refine ⟨fun U => ?_, hK _ ?_⟩; (go_at_call 58; exact Calls.quiet_kept (kids59r _ _ kr HKR.out)); clear hK K))
                refine blk_nil ?_
                intro w4 hw'
                have k4 : Kept (fun _ => False) w1 w4 := by
                  obtain ⟨U, rfl⟩ := hw'
                  exact U.2
                clear hw'
                go_wp2_with fail
                go_meet
                case rel => exact ⟨k4, by simp [HNB.out]⟩
      · have bA : (kr != (kids.length : Int)) = true := by simpa using hA
        have HNB : Hid (wellNB op n kids.length = false) := wellNB_no (.inl (by rw [hkr]; exact hA))
        clear hkr hA
        refine wp_region_blk_kept (by kernel_rfl) (by kernel_rfl) ?_
        repeat (refine blk_step (fun K hK => ?_); go_simp; first | (refine hK _ ?_; clear hK K) | (apply Exists.intro; refine ⟨fun U => ?_, hK _ ?_⟩; (go_at_call 58; exact Calls.quiet_kept (kids59r _ _ kr HKR.out)); clear hK K))
        refine blk_nil ?_
        intro w4 hw'
        have k4 : Kept (fun _ => False) w1 w4 := by
          obtain ⟨U, rfl⟩ := hw'
          exact U.2
        clear hw'
        go_wp2_with fail
        go_meet
        case rel => exact ⟨k4, by simp [HNB.out]⟩
    case rest =>
      obtain ⟨kc1, rfl⟩ := hcut
      clear U0 U1 U2 hkr HKR
      have kwc := k1.trans kc1 (fun _ _ f => f)
      cases hnb : wellNB op n kids.length with
      | false =>
        have HE : Hid (wellB (.mk op n kids) = false) := by simp [Hid, wellB, hnb]
        clear hnb
        go_wp2
        go_ret
        exact ⟨kwc, ret_bool HE.out.symm⟩
      | true =>
        have HNB : Hid _ := hnb
        clear hnb
        have d2 := (kc1.cell (lt_of_cell c2) (fun f => f)).trans c2
        have HKS2 : Hid (RsAt B wc kb ko kids) := RsAt.below (kc1.below hB1 (fun _ f => f.elim)) HKS.out
        have hBc := Nat.le_trans hB1 kc1.size
        clear c0 c1 c2 HKS
        go_wp2
        go_loopw [2, 3, 4] (fun _ v3 _ wr => ∃ k : Nat, k ≤ kids.length ∧ v3 = .int .i64 (k : Int) ∧ Kept (fun _ => False) wc wr ∧ ∀ j (h : j < kids.length), j < k → wellB kids[j] = true) (fun _ v3 _ _ => kids.length - (intOf v3).toNat)
        case atStart => exact ⟨0, Nat.zero_le _, rfl, Kept.refl _ _, fun j _ h => absurd h (by omega)⟩
        case round =>
          obtain ⟨k, hk, rfl, hkr, hall⟩ := hrel
          have HALL : Hid (∀ j (h : j < kids.length), j < k → wellB kids[j] = true) := hall
          clear hall
          have q2 := (hkr.cell (lt_of_cell d2) (fun f => f)).trans d2
          have kwr := kwc.trans hkr (fun _ _ f => f)
          by_cases hlt : k < kids.length
          · have hlti : (k : Int) < (kids.length : Int) := by omega
            have hka' := HKA.out (by omega)
            subst hka'
            have HK : Hid (RAt B wr kb (ko + k * 3) kids[k]) := (RsAt.below (hkr.below hBc (fun _ f => f.elim)) HKS2.out).get (List.getElem?_eq_getElem hlt)
            obtain ⟨t', ht'⟩ : ∃ t', kids[k] = t' := ⟨_, rfl⟩
            have HT' : Hid (kids[k] = t') := ht'
            have hts : t'.size ≤ N := Nat.le_trans (Tr.sizes_mem (by rw [← ht']; exact List.getElem_mem hlt)) hsz
            rw [ht'] at HK
            clear ht'
            obtain ⟨op', n', ks'⟩ := t'
            obtain ⟨hbB, g0, g1, ka', kb', ko', kc', g2, hka', hks'⟩ := HK.out
            have HRV : Hid (RV B wr (.agg #[.int .i64 op', .int .i64 n', .slice ka' ks'.length kc']) (.mk op' n' ks')) := ⟨ka', kb', ko', kc', rfl, hka', hks'⟩
            have hBr := Nat.le_trans hBc hkr.size
            clear HK hka' hks'
            cases hwb : wellB (.mk op' n' ks') with
            | false =>
              have HWB : Hid (wellB (.mk op' n' ks') = false) := hwb
              have HE : Hid (wellB (.mk op n kids) = false) := by
                rw [Hid]
                cases hb : wellB (.mk op n kids) with
                | false => rfl
                | true =>
                  have h2 : wellsB kids = true := by
                    simp only [wellB, Bool.and_eq_true] at hb
                    exact hb.2
                  have := (wellsB_all kids).1 h2 k hlt
                  rw [HT'.out, hwb] at this
                  cases this
              clear hwb
              go_wp2_with (go_at_call 24; refine (IH.out (.mk op' n' ks') hts _ B _ HRV.out hBr (by omega)).mono ?_; rintro e w3 ⟨hk3, rfl⟩; rw [HWB.out])
              go_ret
              exact ⟨kwr.trans hk3 (fun _ _ f => f), ret_bool HE.out.symm⟩
            | true =>
              have HWB : Hid (wellB (.mk op' n' ks') = true) := hwb
              clear hwb
              go_wp2_with (go_at_call 24; refine (IH.out (.mk op' n' ks') hts _ B _ HRV.out hBr (by omega)).mono ?_; rintro e w3 ⟨hk3, rfl⟩; rw [HWB.out])
              go_roundw
              case rel => exact ⟨_, _, _, _, _, _, _, _, _, _, _, _, _, _, _, _, _, _, ⟨k + 1, by omega, by go_num, hkr.trans hk3 (fun _ _ f => f), fun j hj hjk => by
                rcases Nat.lt_succ_iff_lt_or_eq.1 hjk with h | rfl
                · exact HALL.out j hj h
                · rw [HT'.out]; exact HWB.out⟩, rfl⟩
              case measure => simp [intOf]; omega
          · have hlti : ¬ (k : Int) < (kids.length : Int) := by omega
            have HE : Hid (wellB (.mk op n kids) = true) := by
              rw [Hid]
              simp only [wellB, Bool.and_eq_true]
              exact ⟨HNB.out, (wellsB_all kids).2 (fun j hj => HALL.out j hj (by omega))⟩
            go_wp2
            go_ret
            exact ⟨kwr, ret_bool HE.out.symm⟩
end Go.Proofs.YtdbpdanocpfboaaDoor
