import Derived.Test.YtdbpdanocpfboabGreatDoorProg
import Derived.WalkKit
import Derived.LaidEql
import Derived.Maps.AppendAt
import Derived.Deep.QuietTactic
import Derived.BigQuiet
import Derived.Deep.RegionWith
import Derived.Deep.DeepMust
import Derived.WalkLawsBesides
/- What a call keeps: all blocks but those of a set. Lists in memory. -/
namespace Go.Proofs.YtdbpdanocpfboabGreatDoor
open Go.RowKit

/-- a block of plain cells, none frozen -/
def PlainB (w : World) (b : Nat) : Prop := ∃ c t, w.heap[b]? = some (.cells c t (0, 0))
theorem PlainB.of_block {w w' : World} {b : Nat} (h : PlainB w b) (e : w'.heap[b]? = w.heap[b]?) : PlainB w' b := by
  obtain ⟨c, t, h⟩ := h
  exact ⟨c, t, e.trans h⟩

/-- w' is w but for the blocks of S and new ones. -/
structure Kept (S : Nat → Prop) (w w' : World) : Prop where
  os : w'.os = w.os
  tape : w'.tape = w.tape
  output : w'.output = w.output
  size : w.heap.size ≤ w'.heap.size
  block : ∀ k, k < w.heap.size → ¬ S k → w'.heap[k]? = w.heap[k]?

section
variable {S T : Nat → Prop} {w w' w'' : World}
theorem Kept.refl (S : Nat → Prop) (w : World) : Kept S w w := ⟨rfl, rfl, rfl, Nat.le_refl _, fun _ _ _ => rfl⟩
theorem Kept.trans (h : Kept S w w') (h' : Kept T w' w'') (hs : ∀ k, k < w.heap.size → T k → S k) : Kept S w w'' :=
  ⟨h'.os.trans h.os, h'.tape.trans h.tape, h'.output.trans h.output, Nat.le_trans h.size h'.size, fun k hk hn =>
    (h'.block k (Nat.lt_of_lt_of_le hk h.size) (fun ht => hn (hs k hk ht))).trans (h.block k hk hn)⟩
theorem Kept.mono (h : Kept S w w') (hs : ∀ k, k < w.heap.size → S k → T k) : Kept T w w' :=
  ⟨h.os, h.tape, h.output, h.size, fun k hk hn => h.block k hk (fun hS => hn (hs k hk hS))⟩
theorem Kept.drew (h : Kept S w w') : Kept S w w'.drew := ⟨h.os, h.tape, h.output, h.size, h.block⟩
theorem Kept.drewN (h : Kept S w w') (n : Nat) : Kept S w (w'.drewN n) := ⟨h.os, h.tape, h.output, h.size, h.block⟩
theorem Kept.alloc (h : Kept S w w') (o : Obj) : Kept S w (w'.alloc o) :=
  ⟨h.os, h.tape, h.output, Nat.le_trans h.size (by simp), fun k hk hn => (Below.heap_alloc _ _ _ (Nat.lt_of_lt_of_le hk h.size)).trans (h.block k hk hn)⟩
theorem Kept.setCell (h : Kept S w w') {p : Addr} (hp : p.block < w.heap.size → S p.block) (u : Value) : Kept S w (w'.setCell p u) :=
  ⟨h.os, h.tape, h.output, Nat.le_trans h.size (by simp [World.setCell]), fun k hk hn => by
    have hne : k ≠ p.block := by
      intro e
      subst e
      exact hn (hp hk)
    rw [Below.heap_setCell _ _ _ _ hne]
    exact h.block k hk hn⟩
theorem Kept.grown (h : Kept S w w') {row : Option Nat} (hg : w'.grownBy w'' row) (hr : ∀ k, k < w.heap.size → some k = row → S k) : Kept S w w'' :=
  ⟨hg.os.trans h.os, hg.tape.trans h.tape, hg.output.trans h.output, Nat.le_trans h.size hg.size, fun k hk hn =>
    (hg.block k (Nat.lt_of_lt_of_le hk h.size) (fun e => hn (hr k hk e))).trans (h.block k hk hn)⟩
theorem Kept.of_below {B : Nat} (h : Below B w w') : Kept (fun k => B ≤ k) w w' :=
  ⟨h.os, h.tape, h.output, h.size, fun k _ hn => h.block k (by omega)⟩
theorem Kept.below (h : Kept S w w') {B : Nat} (hB : B ≤ w.heap.size) (hs : ∀ k, S k → B ≤ k) : Below B w w' :=
  ⟨h.os, h.tape, h.output, h.size, fun k hk => h.block k (by omega) (fun hS => by have := hs k hS; omega)⟩
theorem Kept.cell (h : Kept S w w') {p : Addr} (hp : p.block < w.heap.size) (hn : ¬ S p.block) : w'.cell? p = w.cell? p := World.cell?_of_block (w := w) (h.block p.block hp hn)
theorem Kept.frozen (h : Kept S w w') {p : Addr} (hp : p.block < w.heap.size) (hn : ¬ S p.block) : w'.frozen? p = w.frozen? p := World.frozen?_of_block (w := w) (h.block p.block hp hn)
end

theorem lt_of_cell {w : World} {p : Addr} {v : Value} (h : w.cell? p = some v) : p.block < w.heap.size := by
  unfold World.cell? at h
  split at h
  · rename_i h'; exact (Array.getElem?_eq_some_iff.1 h').1
  · cases h

theorem ownsRow_of_block {w w' : World} {base : Nat} {e : TypeId} {size : Nat} {v : Value} {n : Nat} {xs : List Value} (h : w.ownsRow base e size v n xs) (hb : ∀ k, some k = v.ownBlock → w'.heap[k]? = w.heap[k]?) : w'.ownsRow base e size v n xs := by
  obtain ⟨h1, h2⟩ := h
  refine ⟨h1, ?_⟩
  rcases h2 with h2 | ⟨g, cap, cur, hv, hg, hh, r⟩
  · exact Or.inl h2
  · exact Or.inr ⟨g, cap, cur, hv, hg, by rw [hb g (by rw [hv]; rfl)]; exact hh, r⟩

theorem ownsRow_lt {w : World} {base : Nat} {e : TypeId} {size : Nat} {v : Value} {n : Nat} {xs : List Value} (h : w.ownsRow base e size v n xs) {k : Nat} (hk : some k = v.ownBlock) : k < w.heap.size ∧ base ≤ k := by
  obtain ⟨h1, h2⟩ := h
  rcases h2 with ⟨h2, _⟩ | ⟨g, cap, cur, hv, hg, hh, r⟩
  · subst h2; cases hk
  · subst hv
    cases hk
    exact ⟨(Array.getElem?_eq_some_iff.1 hh).1, hg⟩

end Go.Proofs.YtdbpdanocpfboabGreatDoor

/- Walks of package word: Good, At. -/
namespace Go.Proofs.YtdbpdanocpfboabGreatDoor
open Go.RowKit

/-- the slice v holds the ints xs, in a block below B -/
def IntsV (B : Nat) (w : World) (v : Value) (xs : List Int) : Prop :=
  ∃ (a : Option Addr) (cap : Nat), v = .slice a xs.length cap ∧ xs.length ≤ cap ∧ xs.length ≤ 17592186044416 ∧ ∀ i x, xs[i]? = some x → ∃ b off, a = some ⟨b, off, none⟩ ∧ b < B ∧ w.cell? ⟨b, off + i, none⟩ = some (.int .i64 x)

theorem IntsV.cases {B : Nat} {w : World} {v : Value} {xs : List Int} (h : IntsV B w v xs) : (xs = [] ∧ ∃ a cap, v = .slice a 0 cap ∧ 0 ≤ cap) ∨
    (xs ≠ [] ∧ ∃ b off cap, v = .slice (some ⟨b, off, none⟩) xs.length cap ∧ xs.length ≤ cap ∧ xs.length ≤ 17592186044416 ∧ b < B ∧ ∀ i (hi : i < xs.length), w.cell? ⟨b, off + i, none⟩ = some (.int .i64 xs[i])) := by
  obtain ⟨a, cap, e, hc, hc2, h⟩ := h
  cases xs with
  | nil => exact .inl ⟨rfl, a, cap, e, Nat.zero_le _⟩
  | cons x r =>
    obtain ⟨b, off, rfl, hb, _⟩ := h 0 x rfl
    refine .inr ⟨by simp, b, off, cap, e, hc, hc2, hb, fun i hi => ?_⟩
    obtain ⟨b', off', e', _, hx⟩ := h i (x :: r)[i] (List.getElem?_eq_getElem hi)
    cases e'
    exact hx
theorem IntsV.below {B : Nat} {w w' : World} {v : Value} {xs : List Int} (h : IntsV B w v xs) (hb : Below B w w') : IntsV B w' v xs := by
  obtain ⟨a, cap, e, hc, hc2, h⟩ := h
  refine ⟨a, cap, e, hc, hc2, fun i x hx => ?_⟩
  obtain ⟨b, off, e', hB, hc⟩ := h i x hx
  exact ⟨b, off, e', hB, (hb.cell (p := ⟨b, off + i, none⟩) hB).trans hc⟩
theorem IntsV.mono {B B' : Nat} {w : World} {v : Value} {xs : List Int} (h : IntsV B w v xs) (hb : B ≤ B') : IntsV B' w v xs := by
  obtain ⟨a, cap, e, hc, hc2, h⟩ := h
  refine ⟨a, cap, e, hc, hc2, fun i x hx => ?_⟩
  obtain ⟨b, off, e', hB, hc⟩ := h i x hx
  exact ⟨b, off, e', by omega, hc⟩

theorem ret_bool {a b : Bool} (h : a = b) : Ending.returned (.bool a) = .returned (.bool b) := by rw [h]
theorem ret_int {a b : Int} (h : a = b) : Ending.returned (.int .i64 a) = .returned (.int .i64 b) := by rw [h]

def okNum (x : Int) : Bool := decide (0 ≤ x) && decide (x ≤ 255)

set_option maxHeartbeats 400000 in
theorem good41_some (w : World) (b off cap : Nat) (xs : List Int) (hl : xs.length ≤ 17592186044416)
    (hc : ∀ i, (h : i < xs.length) → w.cell? ⟨b, off + i, none⟩ = some (.int .i64 xs[i])) :
    Calls Tryz.prog 41 #[.slice (some ⟨b, off, none⟩) xs.length cap] w fun e w' => e = .returned (.bool (xs.all okNum)) ∧ w' = w := by
  go_enter Tryz.func41, Tryz.ntmps41
  go_wp2
  go_loop [7] (fun i => ∃ k : Nat, k ≤ xs.length ∧ i = .int .i64 k ∧ ∀ j, (h : j < k) → (h' : j < xs.length) → okNum xs[j] = true) (fun i => xs.length - (intOf i).toNat)
  case atStart => exact ⟨0, Nat.zero_le _, rfl, by omega⟩
  case round =>
    obtain ⟨k, hk, rfl, hall⟩ := hrel
    by_cases hlt : k < xs.length
    · have hck := hc k hlt
      have hbad : okNum xs[k] = false → xs.all okNum = false := fun e => by
        rw [List.all_eq_false]
        exact ⟨xs[k], List.getElem_mem hlt, by simp [e]⟩
      have HB : Hid _ := hbad
      have HA : Hid (∀ j, (h : j < k) → (h' : j < xs.length) → okNum xs[j] = true) := hall
      clear hbad hall
      by_cases h1 : xs[k] < 0
      · go_wp2
        go_ret
        exact ⟨ret_bool (HB.out (by simp [okNum]; omega)).symm, rfl⟩
      · by_cases h2 : 255 < xs[k]
        · go_wp2
          go_ret
          exact ⟨ret_bool (HB.out (by simp [okNum]; omega)).symm, rfl⟩
        · go_wp2
          go_round
          case rel =>
            refine ⟨k + 1, by omega, by go_num, fun j hj hj' => ?_⟩
            by_cases e : j = k
            · subst e; simp [okNum]; omega
            · exact HA.out j (by omega) hj'
          case measure => simp [intOf]; omega
    · have he : xs.all okNum = true := by
        rw [List.all_eq_true]
        intro x hx
        obtain ⟨i, hi, rfl⟩ := List.mem_iff_getElem.1 hx
        exact hall i (by omega) hi
      have HE : Hid _ := he
      clear he
      go_wp2
      go_ret
      exact ⟨ret_bool HE.out.symm, rfl⟩

set_option maxHeartbeats 400000 in
theorem good41_nil (w : World) (a : Option Addr) (cap : Nat) : Calls Tryz.prog 41 #[.slice a 0 cap] w fun e w' => e = .returned (.bool true) ∧ w' = w := by
  go_enter Tryz.func41, Tryz.ntmps41
  go_wp2
  go_loop [7] (fun i => i = .int .i64 0) (fun _ => 0)
  case atStart => rfl
  case round =>
    subst hrel
    go_wp2
    go_ret
    exact ⟨rfl, rfl⟩

theorem good41 (w : World) (B : Nat) (v : Value) (xs : List Int) (h : IntsV B w v xs) : Calls Tryz.prog 41 #[v] w fun e w' => e = .returned (.bool (xs.all okNum)) ∧ w' = w := by
  rcases h.cases with ⟨rfl, a, cap, rfl, _⟩ | ⟨_, b, off, cap, rfl, h1, h2, _, hc⟩
  · exact good41_nil w a cap
  · exact good41_some w b off cap xs (by omega) hc

/-- a Word's value -/
def WordV (B : Nat) (w : World) (v : Value) (hd lp : List Int) : Prop := ∃ hv lv, v = .agg #[hv, lv] ∧ IntsV B w hv hd ∧ IntsV B w lv lp
theorem WordV.below {B : Nat} {w w' : World} {v : Value} {hd lp : List Int} (h : WordV B w v hd lp) (hb : Below B w w') : WordV B w' v hd lp := by
  obtain ⟨hv, lv, e, h1, h2⟩ := h
  exact ⟨hv, lv, e, h1.below hb, h2.below hb⟩
theorem WordV.mono {B B' : Nat} {w : World} {v : Value} {hd lp : List Int} (h : WordV B w v hd lp) (hb : B ≤ B') : WordV B' w v hd lp := by
  obtain ⟨hv, lv, e, h1, h2⟩ := h
  exact ⟨hv, lv, e, h1.mono hb, h2.mono hb⟩
theorem IntsV.form {B : Nat} {w : World} {v : Value} {xs : List Int} (h : IntsV B w v xs) : ∃ a cap, v = .slice a xs.length cap ∧ xs.length ≤ 17592186044416 := by
  obtain ⟨a, cap, e, h1, h2, _⟩ := h
  exact ⟨a, cap, e, by omega⟩

def goodW (hd lp : List Int) : Bool := !lp.isEmpty && decide (hd.length + lp.length ≤ 20000) && (hd.all okNum && lp.all okNum)

set_option maxHeartbeats 1000000 in
theorem good23 (w : World) (B : Nat) (v : Value) (hd lp : List Int) (h : WordV B w v hd lp) (hB : B ≤ w.heap.size) : Calls Tryz.prog 23 #[v] w fun e w' => e = .returned (.bool (goodW hd lp)) ∧ Kept (fun _ => False) w w' := by
  obtain ⟨hv, lv, rfl, h1, h2⟩ := h
  obtain ⟨ha, hc, e1, hl1⟩ := h1.form
  obtain ⟨la, lc, e2, hl2⟩ := h2.form
  have hk : Kept (fun _ => False) w (w.alloc (.cells #[hv, lv] 43)) := (Kept.refl _ _).alloc _
  have h1' := h1.below (hk.below hB (fun _ f => f.elim))
  have h2' := h2.below (hk.below hB (fun _ f => f.elim))
  have c1 := good41 _ B hv hd h1'
  have c2 := good41 _ B lv lp h2'
  subst e1 e2
  clear h1 h2 h1' h2'
  by_cases z1 : lp.length = 0
  · have z2 : goodW hd lp = false := by
      have : lp = [] := List.eq_nil_of_length_eq_zero z1
      simp [goodW, this]
    have Z2 : Hid _ := z2
    have z3 : ((lp.length : Int) == 0) = true := by simp [z1]
    clear z2 z1 c1 c2
    go_enter Tryz.func23, Tryz.ntmps23
    go_wp2
    go_ret
    exact ⟨ret_bool Z2.out.symm, hk⟩
  · have z3 : ((lp.length : Int) == 0) = false := beq_eq_false_iff_ne.2 (by omega)
    have hne : lp.isEmpty = false := by cases lp <;> simp_all
    by_cases z4 : 20000 < hd.length + lp.length
    · have Z2 : Hid (goodW hd lp = false) := by show goodW hd lp = false; simp [goodW]; omega
      have z5 : (20000 : Int) < (hd.length : Int) + (lp.length : Int) := by omega
      clear z1 c1 c2 hne
      go_enter Tryz.func23, Tryz.ntmps23
      go_wp2
      go_ret
      exact ⟨ret_bool Z2.out.symm, hk⟩
    · have Z2 : Hid (goodW hd lp = (hd.all okNum && lp.all okNum)) := by
        show goodW hd lp = _
        simp only [goodW, hne]
        simp
        omega
      have z5 : ¬ (20000 : Int) < (hd.length : Int) + (lp.length : Int) := by omega
      have C1 : Hid _ := c1
      have C2 : Hid _ := c2
      clear z1 hne z4 c1 c2
      generalize hd.all okNum = p at *
      generalize lp.all okNum = q at *
      cases p
      all_goals
        go_enter Tryz.func23, Tryz.ntmps23
        go_wp2_with (first | (go_at_call_of 41 (Value.slice ha hd.length hc); refine Calls.mono C1.out ?_; rintro e w' ⟨rfl, rfl⟩) | (go_at_call_of 41 (Value.slice la lp.length lc); refine Calls.mono C2.out ?_; rintro e w' ⟨rfl, rfl⟩))
        go_ret
        exact ⟨ret_bool Z2.out.symm, hk⟩
end Go.Proofs.YtdbpdanocpfboabGreatDoor

/- Texts: their bytes; lists of texts in memory; names and letters. The document's IsName, find. -/
namespace Go.Proofs.YtdbpdanocpfboabGreatDoor
open Go.RowKit

def byteN (s : ByteArray) (i : Nat) : Nat := (s.data.getD i 0).toNat
theorem byteN_get {s : ByteArray} {i : Nat} (h : i < s.size) : byteN s i = (s[i]).toNat := by
  have h' : i < s.data.size := h
  have : s[i] = s.data[i] := rfl
  simp [byteN, Array.getD, h, this]
theorem byteN_lt (s : ByteArray) (i : Nat) : byteN s i < 256 := by
  unfold byteN
  exact UInt8.toNat_lt _

/-- the slice v holds the values cs, in a block below B -/
def LsV (B : Nat) (w : World) (v : Value) (cs : List Value) : Prop :=
  ∃ (a : Option Addr) (cap : Nat), v = .slice a cs.length cap ∧ cs.length ≤ cap ∧ cs.length ≤ 17592186044416 ∧ ∀ i x, cs[i]? = some x → ∃ b off, a = some ⟨b, off, none⟩ ∧ b < B ∧ w.cell? ⟨b, off + i, none⟩ = some x
theorem LsV.below {B : Nat} {w w' : World} {v : Value} {xs : List Value} (h : LsV B w v xs) (hb : Below B w w') : LsV B w' v xs := by
  obtain ⟨a, cap, e, hc, hc2, h⟩ := h
  refine ⟨a, cap, e, hc, hc2, fun i x hx => ?_⟩
  obtain ⟨b, off, e', hB, hc⟩ := h i x hx
  exact ⟨b, off, e', hB, (hb.cell (p := ⟨b, off + i, none⟩) hB).trans hc⟩
theorem LsV.mono {B B' : Nat} {w : World} {v : Value} {xs : List Value} (h : LsV B w v xs) (hb : B ≤ B') : LsV B' w v xs := by
  obtain ⟨a, cap, e, hc, hc2, h⟩ := h
  refine ⟨a, cap, e, hc, hc2, fun i x hx => ?_⟩
  obtain ⟨b, off, e', hB, hc⟩ := h i x hx
  exact ⟨b, off, e', by omega, hc⟩
theorem LsV.new {w w' : World} {v : Value} {xs : List Value} (h : LsV w.heap.size w v xs) (hk : Kept (fun _ => False) w w') : LsV w'.heap.size w' v xs := (h.below (hk.below (Nat.le_refl _) (fun _ f => f.elim))).mono hk.size
theorem LsV.kept {B : Nat} {w w' : World} {v : Value} {xs : List Value} (h : LsV B w v xs) (hk : Kept (fun _ => False) w w') (hB : B ≤ w.heap.size) : LsV B w' v xs := h.below (hk.below hB (fun _ f => f.elim))
theorem LsV.form {B : Nat} {w : World} {v : Value} {xs : List Value} (h : LsV B w v xs) : ∃ a cap, v = .slice a xs.length cap ∧ xs.length ≤ 17592186044416 := by
  obtain ⟨a, cap, e, h1, h2, _⟩ := h
  exact ⟨a, cap, e, by omega⟩
theorem LsV.cell {B : Nat} {w : World} {a : Option Addr} {n cap : Nat} {xs : List Value} (h : LsV B w (.slice a n cap) xs) {i : Nat} {x : Value} (hx : xs[i]? = some x) : ∃ b off, a = some ⟨b, off, none⟩ ∧ b < B ∧ w.cell? ⟨b, off + i, none⟩ = some x := by
  obtain ⟨a', cap', e, _, _, h⟩ := h
  cases e
  exact h i x hx
theorem IntsV.ls {B : Nat} {w : World} {v : Value} {xs : List Int} (h : IntsV B w v xs) : LsV B w v (xs.map (Value.int .i64)) := by
  obtain ⟨a, cap, e, h1, h2, h3⟩ := h
  refine ⟨a, cap, by simpa using e, by simpa using h1, by simpa using h2, fun i x hx => ?_⟩
  rw [List.getElem?_map] at hx
  obtain ⟨y, hy, rfl⟩ := Option.map_eq_some_iff.1 hx
  exact h3 i y hy
theorem LsV.ints {B : Nat} {w : World} {v : Value} {xs : List Int} (h : LsV B w v (xs.map (Value.int .i64))) : IntsV B w v xs := by
  obtain ⟨a, cap, e, h1, h2, h3⟩ := h
  exact ⟨a, cap, by simpa using e, by simpa using h1, by simpa using h2, fun i x hx => h3 i _ (by rw [List.getElem?_map, hx]; rfl)⟩
abbrev StrsV (B : Nat) (w : World) (v : Value) (xs : List ByteArray) : Prop := LsV B w v (xs.map Value.string)
theorem StrsV.form {B : Nat} {w : World} {v : Value} {xs : List ByteArray} (h : StrsV B w v xs) : ∃ a cap, v = .slice a xs.length cap ∧ xs.length ≤ 17592186044416 := by
  have := LsV.form h
  simpa using this
theorem StrsV.cell {B : Nat} {w : World} {a : Option Addr} {n cap : Nat} {xs : List ByteArray} (h : StrsV B w (.slice a n cap) xs) {i : Nat} (hi : i < xs.length) : ∃ b off, a = some ⟨b, off, none⟩ ∧ b < B ∧ w.cell? ⟨b, off + i, none⟩ = some (.string xs[i]) :=
  LsV.cell h (i := i) (x := .string xs[i]) (by simp [hi])

/-! ### names -/
def nameC (c : Nat) : Bool := (decide (97 ≤ c) && decide (c ≤ 122)) || (decide (48 ≤ c) && decide (c ≤ 57))
def nameB (s : ByteArray) : Bool := decide (1 ≤ s.size) && decide (s.size ≤ 6) && (List.range s.size).all (fun i => nameC (byteN s i))

set_option maxRecDepth 100000 in
set_option maxHeartbeats 1000000 in
theorem isName55 (w : World) (s : ByteArray) (hs : s.size ≤ 9223372036854775807) : Calls Tryz.prog 55 #[.string s] w fun e w' => e = .returned (.bool (nameB s)) ∧ w' = w := by
  by_cases h1 : s.size < 1
  · have HE : Hid (nameB s = false) := by simp [Hid, nameB]; omega
    have h1i : (s.size : Int) < 1 := by omega
    go_enter Tryz.func55, Tryz.ntmps55
    go_wp2
    go_ret
    exact ⟨ret_bool HE.out.symm, rfl⟩
  · by_cases h2 : 6 < s.size
    · have HE : Hid (nameB s = false) := by simp [Hid, nameB]; omega
      have h1i : ¬ (s.size : Int) < 1 := by omega
      have h2i : (6 : Int) < (s.size : Int) := by omega
      go_enter Tryz.func55, Tryz.ntmps55
      go_wp2
      go_ret
      exact ⟨ret_bool HE.out.symm, rfl⟩
    · have h1i : ¬ (s.size : Int) < 1 := by omega
      have h2i : ¬ (6 : Int) < (s.size : Int) := by omega
      go_enter Tryz.func55, Tryz.ntmps55
      go_wp2
      go_loop [3] (fun i => ∃ k : Nat, k ≤ s.size ∧ i = .int .i64 k ∧ ∀ j, j < k → nameC (byteN s j) = true) (fun i => s.size - (intOf i).toNat)
      case atStart => exact ⟨0, Nat.zero_le _, rfl, by omega⟩
      case round =>
        obtain ⟨k, hk, rfl, hall⟩ := hrel
        have HA : Hid (∀ j, j < k → nameC (byteN s j) = true) := hall
        clear hall
        by_cases hlt : k < s.size
        · have hki : (k : Int) < (s.size : Int) := by omega
          have hbn := byteN_get hlt
          have hb2 := byteN_lt s k
          have HNO : Hid (nameC (byteN s k) = false → nameB s = false) := fun h => by
            have : ¬ ∀ x, x < s.size → nameC (byteN s x) = true := fun hh => by rw [hh k hlt] at h; cases h
            simp only [nameB, Bool.and_eq_false_iff]
            right
            rw [List.all_eq_false]
            exact ⟨k, by simp [hlt], by simp [h]⟩
          have HYES : Hid (nameC (byteN s k) = true → ∀ j, j < k + 1 → nameC (byteN s j) = true) := fun h j hj => by
            by_cases e : j = k
            · subst e; exact h
            · exact HA.out j (by omega)
          generalize hc : byteN s k = c at *
          by_cases c1 : 97 ≤ c
          · by_cases c2 : c ≤ 122
            · have d1 : (97 : Int) ≤ ((s[k]).toNat : Int) := by omega
              have d2 : ((s[k]).toNat : Int) ≤ 122 := by omega
              go_wp2
              go_round
              case rel => exact ⟨k + 1, by omega, by go_num, HYES.out (by simp [nameC, c1, c2])⟩
              case measure => simp [intOf]; omega
            · have d1 : (97 : Int) ≤ ((s[k]).toNat : Int) := by omega
              have d2 : ¬ ((s[k]).toNat : Int) ≤ 122 := by omega
              have d3 : (48 : Int) ≤ ((s[k]).toNat : Int) := by omega
              have d4 : ¬ ((s[k]).toNat : Int) ≤ 57 := by omega
              go_wp2
              go_ret
              exact ⟨ret_bool (HNO.out (by simp [nameC, c1, c2]; omega)).symm, rfl⟩
          · have d1 : ¬ (97 : Int) ≤ ((s[k]).toNat : Int) := by omega
            by_cases c3 : 48 ≤ c
            · by_cases c4 : c ≤ 57
              · have d3 : (48 : Int) ≤ ((s[k]).toNat : Int) := by omega
                have d4 : ((s[k]).toNat : Int) ≤ 57 := by omega
                go_wp2
                go_round
                case rel => exact ⟨k + 1, by omega, by go_num, HYES.out (by simp [nameC, c3, c4])⟩
                case measure => simp [intOf]; omega
              · have d3 : (48 : Int) ≤ ((s[k]).toNat : Int) := by omega
                have d4 : ¬ ((s[k]).toNat : Int) ≤ 57 := by omega
                go_wp2
                go_ret
                exact ⟨ret_bool (HNO.out (by simp [nameC, c1, c4])).symm, rfl⟩
            · have d3 : ¬ (48 : Int) ≤ ((s[k]).toNat : Int) := by omega
              go_wp2
              go_ret
              exact ⟨ret_bool (HNO.out (by simp [nameC, c1, c3])).symm, rfl⟩
        · obtain rfl : k = s.size := by omega
          have HE : Hid (nameB s = true) := by
            have := HA.out
            simp [Hid, nameB]
            exact ⟨⟨by omega, by omega⟩, this⟩
          go_wp2
          go_ret
          exact ⟨ret_bool HE.out.symm, rfl⟩
end Go.Proofs.YtdbpdanocpfboabGreatDoor

/- A region that draws its order, whose operations read and whose callees make new blocks alone: one walk. -/
namespace Go.Proofs.YtdbpdanocpfboabGreatDoor
open Go.RowKit

def KW (w : World) : Type := {U : World // Kept (fun _ => False) w U}
instance (w : World) : Nonempty (KW w) := ⟨⟨w, Kept.refl _ _⟩⟩
theorem KW.cell {w : World} (U : KW w) {p : Addr} {v : Value} (h : w.cell? p = some v) : U.1.cell? p = some v := (U.2.cell (lt_of_cell h) (fun f => f)).trans h
theorem wp_region_quiet_kept {P : Program} {id : Nat} {Q : Exit → Act → World → Prop} {a : Act} {w : World} {l : List Oper} (hm : P.follows .mixedOrders = true) (hB : Region.lexB .any l.toArray = true)
    (h : wpQuiet P l.toArray (fun w' => ∃ U : KW w, w' = U.1) (fun a' => ∀ w', (∃ U : KW w, w' = U.1) → Q .normal a' w') l a) : (Code.region id l.toArray true).wp P Q a w :=
  wp_region_quiet (C := fun w' => ∃ U : KW w, w' = U.1) hm hB ⟨⟨w.drew, (Kept.refl _ _).drew⟩, rfl⟩ (by simpa using h)
theorem Calls.quiet_kept {P : Program} {f : FuncId} {args : Array Value} {w : World} {U : KW w} {v : Value}
    (h : Calls P f args U.1 fun e w' => Kept (fun _ => False) U.1 w' ∧ e = .returned v) : Calls P f args U.1 fun e w'' => e = .returned v ∧ ∃ U' : KW w, w'' = U'.1 :=
  h.mono fun _ w' ⟨hk, he⟩ => ⟨he, ⟨w', U.2.trans hk (fun _ _ f => f)⟩, rfl⟩
end Go.Proofs.YtdbpdanocpfboabGreatDoor
