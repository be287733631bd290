import Derived.Test.YtdbpdanocpfboaaDoorZRpl
/- How a text reads: no program here. -/
namespace Go.Proofs.YtdbpdanocpfboaaDoor
open Go.RowKit

/-- the byte at a place; 0 where the text ends -/
def byteN (s : ByteArray) (i : Nat) : Nat := (s.data.getD i 0).toNat
theorem byteN_end {s : ByteArray} {i : Nat} (h : s.size ≤ i) : byteN s i = 0 := by
  simp [byteN, Array.getD, Nat.not_lt.2 h]
theorem lt_of_byteN {s : ByteArray} {i : Nat} (h : byteN s i ≠ 0) : i < s.size := by
  rcases Nat.lt_or_ge i s.size with h' | h'
  · exact h'
  · exact absurd (byteN_end h') h
def skipF (s : ByteArray) : Nat → Nat → Nat
  | 0, i => i
  | n + 1, i => if i < s.size ∧ byteN s i = 32 then skipF s n (i + 1) else i
/-- the next place that is no blank -/
def skipB (s : ByteArray) (i : Nat) : Nat := skipF s (s.size - i) i
theorem skipF_le (s : ByteArray) : ∀ n i, i ≤ skipF s n i
  | 0, i => Nat.le_refl _
  | n + 1, i => by
    unfold skipF
    split
    · have := skipF_le s n (i + 1); omega
    · exact Nat.le_refl _
theorem skipF_top (s : ByteArray) : ∀ n i, i ≤ s.size → skipF s n i ≤ s.size
  | 0, i, h => h
  | n + 1, i, h => by
    unfold skipF
    split
    · exact skipF_top s n (i + 1) (by omega)
    · exact h
theorem skipF_not (s : ByteArray) : ∀ n i, s.size ≤ i + n → ¬ (skipF s n i < s.size ∧ byteN s (skipF s n i) = 32)
  | 0, i, h => by simp only [skipF]; omega
  | n + 1, i, h => by
    unfold skipF
    split
    · exact skipF_not s n (i + 1) (by omega)
    · assumption
theorem le_skipB (s : ByteArray) (i : Nat) : i ≤ skipB s i := skipF_le _ _ _
theorem skipB_top {s : ByteArray} {i : Nat} (h : i ≤ s.size) : skipB s i ≤ s.size := skipF_top _ _ _ h
theorem skipB_not (s : ByteArray) (i : Nat) : ¬ (skipB s i < s.size ∧ byteN s (skipB s i) = 32) := skipF_not s _ _ (by omega)
theorem skipB_stay {s : ByteArray} {i : Nat} (h : ¬ (i < s.size ∧ byteN s i = 32)) : skipB s i = i := by
  unfold skipB
  cases s.size - i with
  | zero => rfl
  | succ n => unfold skipF; rw [if_neg h]
theorem skipB_next {s : ByteArray} {i : Nat} (h1 : i < s.size) (h2 : byteN s i = 32) : skipB s i = skipB s (i + 1) := by
  unfold skipB
  obtain ⟨n, hn⟩ : ∃ n, s.size - i = n + 1 := ⟨s.size - i - 1, by omega⟩
  rw [hn, show s.size - (i + 1) = n by omega]
  conv => lhs; unfold skipF
  rw [if_pos ⟨h1, h2⟩]
theorem skipB_idem (s : ByteArray) (i : Nat) : skipB s (skipB s i) = skipB s i := skipB_stay (skipB_not s i)

def letB (n : Nat) : Prop := 97 ≤ n ∧ n ≤ 122
instance (n : Nat) : Decidable (letB n) := inferInstanceAs (Decidable (_ ∧ _))
def wendF (s : ByteArray) : Nat → Nat → Nat
  | 0, i => i
  | n + 1, i => if i < s.size ∧ letB (byteN s i) then wendF s n (i + 1) else i
/-- where the small letters that stand at a place end -/
def wendB (s : ByteArray) (i : Nat) : Nat := wendF s (s.size - i) i
theorem wendF_le (s : ByteArray) : ∀ n i, i ≤ wendF s n i
  | 0, i => Nat.le_refl _
  | n + 1, i => by
    unfold wendF
    split
    · have := wendF_le s n (i + 1); omega
    · exact Nat.le_refl _
theorem wendF_top (s : ByteArray) : ∀ n i, i ≤ s.size → wendF s n i ≤ s.size
  | 0, i, h => h
  | n + 1, i, h => by
    unfold wendF
    split
    · exact wendF_top s n (i + 1) (by omega)
    · exact h
theorem le_wendB (s : ByteArray) (i : Nat) : i ≤ wendB s i := wendF_le _ _ _
theorem wendB_top {s : ByteArray} {i : Nat} (h : i ≤ s.size) : wendB s i ≤ s.size := wendF_top _ _ _ h
theorem wendB_stay {s : ByteArray} {i : Nat} (h : ¬ (i < s.size ∧ letB (byteN s i))) : wendB s i = i := by
  unfold wendB
  cases s.size - i with
  | zero => rfl
  | succ n => unfold wendF; rw [if_neg h]
theorem wendB_next {s : ByteArray} {i : Nat} (h1 : i < s.size) (h2 : letB (byteN s i)) : wendB s i = wendB s (i + 1) := by
  unfold wendB
  obtain ⟨n, hn⟩ : ∃ n, s.size - i = n + 1 := ⟨s.size - i - 1, by omega⟩
  rw [hn, show s.size - (i + 1) = n by omega]
  conv => lhs; unfold wendF
  rw [if_pos ⟨h1, h2⟩]

/-- the Op of a sign between two, by the row of the grammar -/
def sgn (row c : Nat) : Option Int :=
  if row = 0 then (if c = 45 then some 6 else none)
  else if row = 1 then (if c = 124 then some 5 else none)
  else if row = 2 then (if c = 38 then some 4 else none)
  else if c = 85 then some 8 else if c = 82 then some 9 else none
/-- the Op of a sign ahead of one -/
def ahd (c : Nat) : Option Int := if c = 33 then some 3 else if c = 88 then some 7 else if c = 70 then some 10 else if c = 71 then some 11 else none
theorem ahd_ne {c : Nat} {op : Int} (h : ahd c = some op) : c ≠ 0 ∧ c ≠ 32 := by
  unfold ahd at h; repeat' split at h
  all_goals first | (cases h; done) | omega
theorem sgn_ne {row c : Nat} {op : Int} (h : sgn row c = some op) : c ≠ 0 ∧ c ≠ 32 := by
  unfold sgn at h; repeat' split at h
  all_goals first | (cases h; done) | omega

inductive PRes where
  | ok (t : Tr) (i : Nat)
  | err (e : Int) (at' : Nat)
def PRes.map (f : Tr → Tr) : PRes → PRes
  | .ok t i => .ok (f t) i
  | .err e a => .err e a
/-- what a word of small letters at a place reads as -/
def wordR (s : ByteArray) (i : Nat) : PRes :=
  let e := wendB s i
  let w := s.extract i e
  if w = ⟨#[116, 114, 117, 101]⟩ then .ok (.mk 0 0 []) e
  else if w = ⟨#[102, 97, 108, 115, 101]⟩ then .ok (.mk 1 0 []) e
  else if e = i + 1 ∧ byteN s i ≤ 104 then .ok (.mk 2 ((byteN s i : Int) - 97) []) e
  else .err 2 i
/-- what is read -/
inductive Nt where
  | read (row : Nat)
  | loop (row : Nat) (f : Tr)
  | one
/-- how a text reads, from a place on, at a depth -/
inductive PS (s : ByteArray) : Nt → Nat → Nat → PRes → Prop
  | bottom {i d r} : PS s .one i d r → PS s (.read 4) i d r
  | rerr {row i d e a} : row < 4 → PS s (.read (row + 1)) i d (.err e a) → PS s (.read row) i d (.err e a)
  | rgo {row i d f i1 r} : row < 4 → PS s (.read (row + 1)) i d (.ok f i1) → PS s (.loop row f) i1 d r → PS s (.read row) i d r
  | done {row f i d} : sgn row (byteN s (skipB s i)) = none → PS s (.loop row f) i d (.ok f (skipB s i))
  | bad {f i d} : byteN s (skipB s i) = 45 → byteN s (skipB s i + 1) ≠ 62 → PS s (.loop 0 f) i d (.err 2 (skipB s i + 1))
  | imp {f i d r} : byteN s (skipB s i) = 45 → byteN s (skipB s i + 1) = 62 → PS s (.read 0) (skipB s i + 2) d r → PS s (.loop 0 f) i d (r.map (binT 6 f))
  | right {f i d op r} : sgn 3 (byteN s (skipB s i)) = some op → PS s (.read 3) (skipB s i + 1) d r → PS s (.loop 3 f) i d (r.map (binT op f))
  | lerr {row f i d op e a} : row = 1 ∨ row = 2 → sgn row (byteN s (skipB s i)) = some op → PS s (.read (row + 1)) (skipB s i + 1) d (.err e a) → PS s (.loop row f) i d (.err e a)
  | left {row f i d op g i2 r} : row = 1 ∨ row = 2 → sgn row (byteN s (skipB s i)) = some op → PS s (.read (row + 1)) (skipB s i + 1) d (.ok g i2) → PS s (.loop row (binT op f g)) i2 d r → PS s (.loop row f) i d r
  | sign {i d op r} : ahd (byteN s (skipB s i)) = some op → d ≠ 20 → PS s .one (skipB s i + 1) (d + 1) r → PS s .one i d (r.map fun t => .mk op 0 [t])
  | deep {i} : (∃ op, ahd (byteN s (skipB s i)) = some op) ∨ byteN s (skipB s i) = 40 → PS s .one i 20 (.err 3 (skipB s i))
  | oerr {i d e a} : byteN s (skipB s i) = 40 → d ≠ 20 → PS s (.read 0) (skipB s i + 1) (d + 1) (.err e a) → PS s .one i d (.err e a)
  | obad {i d f j} : byteN s (skipB s i) = 40 → d ≠ 20 → PS s (.read 0) (skipB s i + 1) (d + 1) (.ok f j) → byteN s j ≠ 41 → PS s .one i d (.err 2 j)
  | open {i d f j} : byteN s (skipB s i) = 40 → d ≠ 20 → PS s (.read 0) (skipB s i + 1) (d + 1) (.ok f j) → byteN s j = 41 → PS s .one i d (.ok f (j + 1))
  | word {i d} : ahd (byteN s (skipB s i)) = none → byteN s (skipB s i) ≠ 40 → PS s .one i d (wordR s (skipB s i))

theorem sgn0 {c : Nat} {op : Int} (h : sgn 0 c = some op) : c = 45 ∧ op = 6 := by
  unfold sgn at h; repeat' split at h
  all_goals first | (cases h; done) | (injection h with h; omega) | omega
theorem sgn0_45 : sgn 0 45 = some 6 := rfl
theorem ahd_40 : ahd 40 = none := rfl

theorem PS.det {s : ByteArray} {n : Nt} {i d : Nat} {r : PRes} (h : PS s n i d r) : ∀ {r' : PRes}, PS s n i d r' → r = r' := by
  induction h with
  | bottom h1 ih =>
    intro r' h
    cases h with
    | bottom g => exact ih g
    | rerr g => omega
    | rgo g => omega
  | rerr hr h1 ih =>
    intro r' h
    cases h with
    | bottom g => omega
    | rerr g g1 => exact ih g1
    | rgo g g1 g2 => cases ih g1
  | rgo hr h1 h2 ih1 ih2 =>
    intro r' h
    cases h with
    | bottom g => omega
    | rerr g g1 => cases ih1 g1
    | rgo g g1 g2 => cases ih1 g1; exact ih2 g2
  | done h1 =>
    intro r' h
    cases h with
    | done g => rfl
    | bad g => rw [g] at h1; cases h1
    | imp g => rw [g] at h1; cases h1
    | right g => rw [g] at h1; cases h1
    | lerr _ g => rw [g] at h1; cases h1
    | left _ g => rw [g] at h1; cases h1
  | bad h1 h2 =>
    intro r' h
    cases h with
    | done g => rw [h1] at g; cases g
    | bad g => rfl
    | imp g g2 => exact absurd g2 h2
    | lerr g => omega
    | left g => omega
  | imp h1 h2 h3 ih =>
    intro r' h
    cases h with
    | done g => rw [h1] at g; cases g
    | bad g g2 => exact absurd h2 g2
    | imp g g2 g3 => rw [ih g3]
    | lerr g => omega
    | left g => omega
  | right h1 h3 ih =>
    intro r' h
    cases h with
    | done g => rw [h1] at g; cases g
    | right g g3 => rw [h1] at g; cases g; rw [ih g3]
    | lerr g => omega
    | left g => omega
  | lerr h0 h1 h2 ih =>
    intro r' h
    cases h with
    | done g => rw [h1] at g; cases g
    | bad g => omega
    | imp g => omega
    | right g => omega
    | lerr _ g g2 => exact ih g2
    | left _ g g2 g3 => cases ih g2
  | left h0 h1 h2 h3 ih1 ih2 =>
    intro r' h
    cases h with
    | done g => rw [h1] at g; cases g
    | bad g => omega
    | imp g => omega
    | right g => omega
    | lerr _ g g2 => cases ih1 g2
    | left _ g g2 g3 => rw [h1] at g; cases g; cases ih1 g2; exact ih2 g3
  | sign h1 h2 h3 ih =>
    intro r' h
    cases h with
    | sign g g2 g3 => rw [h1] at g; cases g; rw [ih g3]
    | deep g => exact absurd rfl h2
    | oerr g => rw [g] at h1; cases h1
    | obad g => rw [g] at h1; cases h1
    | «open» g => rw [g] at h1; cases h1
    | word g => rw [h1] at g; cases g
  | deep h1 =>
    intro r' h
    cases h with
    | sign g g2 => exact absurd rfl g2
    | deep g => rfl
    | oerr g g2 => exact absurd rfl g2
    | obad g g2 => exact absurd rfl g2
    | «open» g g2 => exact absurd rfl g2
    | word g g2 =>
      rcases h1 with ⟨op, h1⟩ | h1
      · rw [h1] at g; cases g
      · exact absurd h1 g2
  | oerr h1 h2 h3 ih =>
    intro r' h
    cases h with
    | sign g => rw [h1] at g; cases g
    | deep g => exact absurd rfl h2
    | oerr g g2 g3 => exact ih g3
    | obad g g2 g3 => cases ih g3
    | «open» g g2 g3 => cases ih g3
    | word g g2 => exact absurd h1 g2
  | obad h1 h2 h3 h4 ih =>
    intro r' h
    cases h with
    | sign g => rw [h1] at g; cases g
    | deep g => exact absurd rfl h2
    | oerr g g2 g3 => cases ih g3
    | obad g g2 g3 => cases ih g3; rfl
    | «open» g g2 g3 g4 => cases ih g3; exact absurd g4 h4
    | word g g2 => exact absurd h1 g2
  | «open» h1 h2 h3 h4 ih =>
    intro r' h
    cases h with
    | sign g => rw [h1] at g; cases g
    | deep g => exact absurd rfl h2
    | oerr g g2 g3 => cases ih g3
    | obad g g2 g3 g4 => cases ih g3; exact absurd h4 g4
    | «open» g g2 g3 g4 => cases ih g3; rfl
    | word g g2 => exact absurd h1 g2
  | word h1 h2 =>
    intro r' h
    cases h with
    | sign g => rw [h1] at g; cases g
    | deep g =>
      rcases g with ⟨op, g⟩ | g
      · rw [h1] at g; cases g
      · exact absurd g h2
    | oerr g => exact absurd g h2
    | obad g => exact absurd g h2
    | «open» g => exact absurd g h2
    | word g => rfl

/-! ### what is read is a formula of letters -/
theorem well_un {op : Int} {t : Tr} (h : op = 3 ∨ op = 7 ∨ op = 10 ∨ op = 11) (ht : t.well) : (Tr.mk op 0 [t]).well := by
  rcases h with rfl | rfl | rfl | rfl <;> exact ⟨⟨by decide, by decide, rfl, by decide, by decide⟩, ht, trivial⟩
theorem well_bin {op : Int} {a b : Tr} (h : op = 4 ∨ op = 5 ∨ op = 6 ∨ op = 8 ∨ op = 9) (ha : a.well) (hb : b.well) : (binT op a b).well := by
  rcases h with rfl | rfl | rfl | rfl | rfl <;> exact ⟨⟨by decide, by decide, rfl, by decide, by decide⟩, ha, hb, trivial⟩
theorem sgn_op {row c : Nat} {op : Int} (h : sgn row c = some op) : op = 4 ∨ op = 5 ∨ op = 6 ∨ op = 8 ∨ op = 9 := by
  unfold sgn at h; repeat' split at h
  all_goals first | (cases h; done) | (injection h with h; omega)
theorem ahd_op {c : Nat} {op : Int} (h : ahd c = some op) : op = 3 ∨ op = 7 ∨ op = 10 ∨ op = 11 := by
  unfold ahd at h; repeat' split at h
  all_goals first | (cases h; done) | (injection h with h; omega)
theorem size_extract {s : ByteArray} {i e : Nat} (h : e ≤ s.size) : (s.extract i e).size = e - i := by
  rw [ByteArray.size_extract]; omega
theorem wordR_ok {s : ByteArray} {i j : Nat} {t : Tr} (hi : i ≤ s.size) (h : wordR s i = .ok t j) : t.well ∧ t.size + i ≤ j ∧ j ≤ s.size := by
  have h1 := wendB_top hi
  have hle := le_wendB s i
  unfold wordR at h
  simp only at h
  split at h
  · rename_i e
    injection h with h2 h3
    subst h2 h3
    have hz : (s.extract i (wendB s i)).size = 4 := by rw [e]; rfl
    rw [size_extract h1] at hz
    exact ⟨⟨⟨by decide, by decide, rfl, by decide, by decide⟩, trivial⟩, by simp [Tr.size, Tr.sizes]; omega, h1⟩
  split at h
  · rename_i e
    injection h with h2 h3
    subst h2 h3
    have hz : (s.extract i (wendB s i)).size = 5 := by rw [e]; rfl
    rw [size_extract h1] at hz
    exact ⟨⟨⟨by decide, by decide, rfl, by decide, by decide⟩, trivial⟩, by simp [Tr.size, Tr.sizes]; omega, h1⟩
  split at h
  · rename_i e
    injection h with h2 h3
    subst h2 h3
    have hl : i < s.size ∧ letB (byteN s i) := by
      apply Classical.byContradiction
      intro hn
      have := wendB_stay hn
      omega
    have := hl.2
    unfold letB at this
    refine ⟨⟨⟨by decide, by decide, rfl, by omega, by have : topN 2 = 7 := rfl; omega⟩, trivial⟩, by simp [Tr.size, Tr.sizes]; omega, h1⟩
  · cases h
/-- what is known of an answer -/
def PInfo (s : ByteArray) (n : Nt) (i : Nat) (t : Tr) (j : Nat) : Prop := match n with
  | .read row => t.well ∧ t.size + i ≤ j ∧ j ≤ s.size ∧ (row < 4 → skipB s j = j)
  | .loop _ f => f.well → t.well ∧ t.size + i ≤ j + f.size ∧ j ≤ s.size ∧ skipB s j = j
  | .one => t.well ∧ t.size + i ≤ j ∧ j ≤ s.size
theorem PS.info {s : ByteArray} {n : Nt} {i d : Nat} {r : PRes} (h : PS s n i d r) : i ≤ s.size → ∀ {t j}, r = .ok t j → PInfo s n i t j := by
  induction h with
  | bottom h1 ih => intro hi t j e; obtain ⟨a, b, c⟩ := ih hi e; exact ⟨a, b, c, fun h => by omega⟩
  | rerr hr h1 ih => intro hi t j e; cases e
  | rgo hr h1 h2 ih1 ih2 =>
    intro hi t j e
    obtain ⟨a, b, c, _⟩ := ih1 hi rfl
    obtain ⟨a', b', c', d'⟩ := ih2 c e a
    exact ⟨a', by omega, c', fun _ => d'⟩
  | @done row f i d h1 =>
    intro hi t j e
    injection e with e1 e2
    subst e1 e2
    have := le_skipB s i
    exact fun hw => ⟨hw, by omega, skipB_top hi, skipB_idem _ _⟩
  | bad h1 h2 => intro hi t j e; cases e
  | @imp f i d r h1 h2 h3 ih =>
    intro hi t j e hf
    cases r with
    | err => cases e
    | ok t' j' =>
      injection e with e1 e2
      subst e1 e2
      have := le_skipB s i
      have hlt := lt_of_byteN (s := s) (i := skipB s i + 1) (by omega)
      obtain ⟨a, b, c, d⟩ := ih (by omega) rfl
      exact ⟨well_bin (by simp) hf a, by simp [binT, Tr.size, Tr.sizes]; omega, c, d (by omega)⟩
  | @right f i d op r h1 h3 ih =>
    intro hi t j e hf
    cases r with
    | err => cases e
    | ok t' j' =>
      injection e with e1 e2
      subst e1 e2
      have := le_skipB s i
      have hlt := lt_of_byteN (s := s) (i := skipB s i) (sgn_ne h1).1
      obtain ⟨a, b, c, d⟩ := ih (by omega) rfl
      exact ⟨well_bin (sgn_op h1) hf a, by simp [binT, Tr.size, Tr.sizes]; omega, c, d (by omega)⟩
  | lerr h0 h1 h2 ih => intro hi t j e; cases e
  | @left row f i d op g i2 r h0 h1 h2 h3 ih1 ih2 =>
    intro hi t j e hf
    have := le_skipB s i
    have hlt := lt_of_byteN (s := s) (i := skipB s i) (sgn_ne h1).1
    obtain ⟨a, b, c, d⟩ := ih1 (by omega) rfl
    obtain ⟨a', b', c', d'⟩ := ih2 c e (well_bin (sgn_op h1) hf a)
    simp only [binT, Tr.size, Tr.sizes] at b'
    exact ⟨a', by omega, c', d'⟩
  | @sign i d op r h1 h2 h3 ih =>
    intro hi t j e
    cases r with
    | err => cases e
    | ok t' j' =>
      injection e with e1 e2
      subst e1 e2
      have := le_skipB s i
      have hlt := lt_of_byteN (s := s) (i := skipB s i) (ahd_ne h1).1
      obtain ⟨a, b, c⟩ := ih (by omega) rfl
      exact ⟨well_un (ahd_op h1) a, by simp [Tr.size, Tr.sizes]; omega, c⟩
  | deep h1 => intro hi t j e; cases e
  | oerr h1 h2 h3 ih => intro hi t j e; cases e
  | obad h1 h2 h3 h4 ih => intro hi t j e; cases e
  | @«open» i d f j' h1 h2 h3 h4 ih =>
    intro hi t j e
    injection e with e1 e2
    subst e1 e2
    have := le_skipB s i
    have hlt := lt_of_byteN (s := s) (i := skipB s i) (by omega)
    obtain ⟨a, b, c, d⟩ := ih (by omega) rfl
    have hlt := lt_of_byteN (s := s) (i := j') (by omega)
    exact ⟨a, by omega, by omega⟩
  | @word i d h1 h2 =>
    intro hi t j e
    have := le_skipB s i
    obtain ⟨a, b, c⟩ := wordR_ok (skipB_top hi) e
    exact ⟨a, by omega, c⟩
theorem PS.err_place {s : ByteArray} {n : Nt} {i d : Nat} {r : PRes} (h : PS s n i d r) : i ≤ s.size → ∀ {e a}, r = .err e a → (e = 2 ∨ e = 3) ∧ a ≤ s.size := by
  induction h with
  | bottom h1 ih => intro hi e a he; exact ih hi he
  | rerr hr h1 ih => intro hi e a he; exact ih hi he
  | rgo hr h1 h2 ih1 ih2 => intro hi e a he; exact ih2 (h1.info hi rfl).2.2.1 he
  | done h1 => intro hi e a he; cases he
  | @bad f i d h1 h2 =>
    intro hi e a he
    cases he
    have hlt := lt_of_byteN (s := s) (i := skipB s i) (by omega)
    exact ⟨.inl rfl, by omega⟩
  | @imp f i d r h1 h2 h3 ih =>
    intro hi e a he
    have hlt := lt_of_byteN (s := s) (i := skipB s i + 1) (by omega)
    cases r with
    | ok => cases he
    | err => exact ih (by omega) he
  | @right f i d op r h1 h3 ih =>
    intro hi e a he
    have hlt := lt_of_byteN (s := s) (i := skipB s i) (sgn_ne h1).1
    cases r with
    | ok => cases he
    | err => exact ih (by omega) he
  | @lerr row f i d op e a h0 h1 h2 ih =>
    intro hi e a he
    have hlt := lt_of_byteN (s := s) (i := skipB s i) (sgn_ne h1).1
    exact ih (by omega) he
  | @left row f i d op g i2 r h0 h1 h2 h3 ih1 ih2 =>
    intro hi e a he
    have hlt := lt_of_byteN (s := s) (i := skipB s i) (sgn_ne h1).1
    exact ih2 (h2.info (by omega) rfl).2.2.1 he
  | @sign i d op r h1 h2 h3 ih =>
    intro hi e a he
    have hlt := lt_of_byteN (s := s) (i := skipB s i) (ahd_ne h1).1
    cases r with
    | ok => cases he
    | err => exact ih (by omega) he
  | deep h1 => intro hi e a he; cases he; exact ⟨.inr rfl, skipB_top hi⟩
  | @oerr i d e a h1 h2 h3 ih =>
    intro hi e a he
    have hlt := lt_of_byteN (s := s) (i := skipB s i) (by omega)
    exact ih (by omega) he
  | @obad i d f j h1 h2 h3 h4 ih =>
    intro hi e a he
    cases he
    have hlt := lt_of_byteN (s := s) (i := skipB s i) (by omega)
    exact ⟨.inl rfl, (h3.info (by omega) rfl).2.2.1⟩
  | «open» h1 h2 h3 h4 ih => intro hi e a he; cases he
  | @word i d h1 h2 =>
    intro hi e a he
    unfold wordR at he
    simp only at he
    repeat' split at he
    all_goals first | (cases he; done) | (cases he; exact ⟨.inl rfl, skipB_top hi⟩)
/-- what the whole text reads as -/
def PW (s : ByteArray) (r : PRes) : Prop := ∃ q, PS s (.read 0) 0 0 q ∧ r = match q with
  | .ok t j => if j < s.size then .err 2 j else .ok t j
  | .err e a => .err e a
theorem PW.det {s : ByteArray} {r r' : PRes} (h : PW s r) (h' : PW s r') : r = r' := by
  obtain ⟨q, h1, rfl⟩ := h
  obtain ⟨q', h1', rfl⟩ := h'
  rw [h1.det h1']
theorem PW.info {s : ByteArray} {t : Tr} {j : Nat} (h : PW s (.ok t j)) : t.well ∧ t.size ≤ s.size := by
  obtain ⟨q, h1, e⟩ := h
  cases q with
  | err => cases e
  | ok t' j' =>
    simp only at e
    split at e
    · cases e
    · injection e with e1 e2
      subst e1 e2
      obtain ⟨a, b, c, _⟩ := h1.info (by omega) rfl
      exact ⟨a, by omega⟩
end Go.Proofs.YtdbpdanocpfboaaDoor

/- What is written, and how it is read: no program here. -/
namespace Go.Proofs.YtdbpdanocpfboaaDoor
open Go.RowKit

/-! ### what is written, and how it is read -/
def txTrue : List UInt8 := [116, 114, 117, 101]
def txFalse : List UInt8 := [102, 97, 108, 115, 101]
/-- the sign ahead of one -/
def unS (op : Int) : List UInt8 := if op = 3 then [33] else if op = 7 then [88] else if op = 10 then [70] else [71]
/-- the sign between two -/
def biS (op : Int) : List UInt8 := if op = 5 then [124] else if op = 6 then [45, 62] else if op = 8 then [85] else if op = 9 then [82] else [38]
def printT : Tr → List UInt8
  | .mk op n [] => if op = 0 then txTrue else if op = 1 then txFalse else [UInt8.ofNat (97 + n).toNat]
  | .mk op _ [a] => unS op ++ printT a
  | .mk op _ (a :: b :: _) => [40] ++ printT a ++ biS op ++ printT b ++ [41]
/-- the bytes l lie in the text, from a place on -/
def Lies (s : ByteArray) (i : Nat) : List UInt8 → Prop
  | [] => True
  | b :: r => i < s.size ∧ byteN s i = b.toNat ∧ Lies s (i + 1) r
theorem Lies.append {s : ByteArray} : ∀ {a b : List UInt8} {i : Nat}, Lies s i (a ++ b) → Lies s i a ∧ Lies s (i + a.length) b
  | [], b, i, h => ⟨trivial, h⟩
  | x :: a, b, i, h => by
    obtain ⟨h1, h2, h3⟩ := h
    obtain ⟨g1, g2⟩ := Lies.append h3
    exact ⟨⟨h1, h2, g1⟩, by rw [List.length_cons, show i + (a.length + 1) = i + 1 + a.length by omega]; exact g2⟩
theorem Lies.self_aux : ∀ (p l : List UInt8), Lies ⟨(p ++ l).toArray⟩ p.length l
  | p, [] => trivial
  | p, b :: r => by
    refine ⟨?_, ?_, ?_⟩
    · show p.length < (p ++ b :: r).toArray.size
      simp
    · simp [byteN]
    · have := Lies.self_aux (p ++ [b]) r
      simpa using this
theorem Lies.self (l : List UInt8) : Lies ⟨l.toArray⟩ 0 l := by simpa using Lies.self_aux [] l
theorem Lies.top {s : ByteArray} : ∀ {l : List UInt8} {i : Nat}, Lies s i l → i ≤ s.size → i + l.length ≤ s.size
  | [], i, _, hi => by simpa using hi
  | b :: r, i, h, hi => by
    obtain ⟨h1, _, h3⟩ := h
    have := h3.top (by omega)
    simp; omega
theorem Lies.eq {s : ByteArray} : ∀ {l : List UInt8} {i : Nat}, Lies s i l → i ≤ s.size → (s.extract i (i + l.length)).data.toList = l := by
  intro l i h hi
  have ht := h.top hi
  apply List.ext_getElem?
  intro k
  have hlen : (s.extract i (i + l.length)).data.toList.length = l.length := by
    have := size_extract (s := s) (i := i) ht
    have e : (s.extract i (i + l.length)).data.toList.length = (s.extract i (i + l.length)).size := Array.length_toList
    omega
  rcases Nat.lt_or_ge k l.length with hk | hk
  · rw [List.getElem?_eq_getElem (by omega), List.getElem?_eq_getElem hk]
    congr 1
    have key : ∀ (l : List UInt8) (i k : Nat) (hk : k < l.length) (h : Lies s i l) (hs : i + k < s.data.size), s.data[i + k] = l[k] := by
      intro l
      induction l with
      | nil => intro i k hk; simp at hk
      | cons b r ih =>
        intro i k hk h hs
        obtain ⟨h1, h2, h3⟩ := h
        cases k with
        | zero =>
          have : byteN s i = (s.data[i]'hs).toNat := by simp [byteN, Array.getD, show i < s.size from h1]
          rw [this] at h2
          simpa using UInt8.toNat_inj.1 h2
        | succ k =>
          have := ih (i + 1) k (by simpa using hk) h3 (by omega)
          simp only [List.getElem_cons_succ]
          rw [← this]
          congr 1
          omega
    have hsd : i + k < s.data.size := by
      have : s.data.size = s.size := rfl
      omega
    rw [← key l i k hk h hsd]
    simp
  · rw [List.getElem?_eq_none (by omega), List.getElem?_eq_none hk]
theorem wend_lies {s : ByteArray} : ∀ {l : List UInt8} {i : Nat}, Lies s i l → (∀ b ∈ l, letB b.toNat) → ¬ letB (byteN s (i + l.length)) → wendB s i = i + l.length
  | [], i, _, _, hn => wendB_stay (fun h => hn (by simpa using h.2))
  | b :: r, i, h, hl, hn => by
    obtain ⟨h1, h2, h3⟩ := h
    rw [wendB_next h1 (by rw [h2]; exact hl b (by simp)), wend_lies h3 (fun x hx => hl x (by simp [hx])) (by rw [show i + 1 + r.length = i + (b :: r).length by simp; omega]; exact hn)]
    simp; omega
theorem data_eq {a b : ByteArray} (h : a.data.toList = b.data.toList) : a = b := by
  cases a; cases b
  congr
  exact Array.toList_inj.1 h
theorem Lies.ex {s : ByteArray} {l : List UInt8} {i : Nat} (h : Lies s i l) (hi : i ≤ s.size) : s.extract i (i + l.length) = ⟨l.toArray⟩ := data_eq (by rw [h.eq hi])
theorem stay_of {s : ByteArray} {i : Nat} (h : byteN s i ≠ 32) : skipB s i = i := skipB_stay (fun g => h g.2)

/-- up through the rows where no sign stands -/
theorem PS.up {s : ByteArray} {i d j : Nat} {t : Tr} (hj : skipB s j = j) : ∀ {row : Nat}, PS s (.read row) i d (.ok t j) → row ≤ 4 → ∀ {row' : Nat}, row' ≤ row → (∀ q, row' ≤ q → q < row → sgn q (byteN s j) = none) → PS s (.read row') i d (.ok t j)
  | 0, h, _, row', hr, _ => by obtain rfl : row' = 0 := by omega
                               exact h
  | row + 1, h, h4, row', hr, hs => by
    by_cases e : row' = row + 1
    · subst e; exact h
    · refine PS.up hj (row := row) (PS.rgo (by omega) h ?_) (by omega) (by omega) (fun q h1 h2 => hs q h1 (by omega))
      have := PS.done (s := s) (row := row) (f := t) (i := j) (d := d) (by rw [hj]; exact hs row (by omega) (by omega))
      rwa [hj] at this
theorem PS.upErr {s : ByteArray} {i d e a : _} : ∀ {row : Nat}, PS s (.read row) i d (.err e a) → row ≤ 4 → ∀ {row' : Nat}, row' ≤ row → PS s (.read row') i d (.err e a)
  | 0, h, _, row', hr => by obtain rfl : row' = 0 := by omega
                            exact h
  | row + 1, h, h4, row', hr => by
    by_cases e : row' = row + 1
    · subst e; exact h
    · exact PS.upErr (row := row) (PS.rerr (by omega) h) (by omega) (by omega)
theorem sgn_41 (q : Nat) : sgn q 41 = none := by
  unfold sgn; repeat' split
  all_goals first | rfl | omega
theorem sgn_0 (q : Nat) : sgn q 0 = none := by
  unfold sgn; repeat' split
  all_goals first | rfl | omega
/-- a sign between two, and its row -/
theorem read_bin {s : ByteArray} {i d ia ib : Nat} {a b : Tr} {op : Int} (hop : op = 4 ∨ op = 5 ∨ op = 6 ∨ op = 8 ∨ op = 9) (hA : PS s .one i d (.ok a ia)) (hs : Lies s ia (biS op)) (hB : PS s .one (ia + (biS op).length) d (.ok b ib)) (h41 : byteN s ib = 41) :
    PS s (.read 0) i d (.ok (binT op a b) ib) := by
  have jb : skipB s ib = ib := stay_of (by omega)
  have n41 : ∀ q, sgn q (byteN s ib) = none := fun q => by rw [h41]; exact sgn_41 q
  have dn : ∀ row f, PS s (.loop row f) ib d (.ok f ib) := fun row f => by
    have := PS.done (s := s) (row := row) (f := f) (i := ib) (d := d) (by rw [jb]; exact n41 row)
    rwa [jb] at this
  have hb : ∀ row, row ≤ 4 → PS s (.read row) (ia + (biS op).length) d (.ok b ib) := fun row hr => PS.up jb (PS.bottom hB) (by omega) hr (fun q _ _ => n41 q)
  have lift : ∀ row, row ≤ 4 → PS s (.read row) i d (.ok (binT op a b) ib) → PS s (.read 0) i d (.ok (binT op a b) ib) := fun row hr h => PS.up jb h hr (by omega) (fun q _ _ => n41 q)
  rcases hop with rfl | rfl | rfl | rfl | rfl
  · have c : byteN s ia = 38 := hs.2.1
    have ja : skipB s ia = ia := stay_of (by omega)
    have ha := PS.up ja (PS.bottom hA) (by omega) (row' := 3) (by omega) (fun q h1 h2 => by
      obtain rfl : q = 3 := by omega
      rw [c]
      rfl)
    exact lift 2 (by omega) (PS.rgo (by omega) ha (PS.left (op := 4) (.inr rfl) (by rw [ja, c]; rfl) (by rw [ja]; exact hb 3 (by omega)) (dn _ _)))
  · have c : byteN s ia = 124 := hs.2.1
    have ja : skipB s ia = ia := stay_of (by omega)
    have ha := PS.up ja (PS.bottom hA) (by omega) (row' := 2) (by omega) (fun q h1 h2 => by
      rw [c]
      obtain rfl | rfl : q = 2 ∨ q = 3 := by omega
      · rfl
      · rfl)
    exact lift 1 (by omega) (PS.rgo (by omega) ha (PS.left (op := 5) (.inl rfl) (by rw [ja, c]; rfl) (by rw [ja]; exact hb 2 (by omega)) (dn _ _)))
  · have c : byteN s ia = 45 := hs.2.1
    have c2 : byteN s (ia + 1) = 62 := hs.2.2.2.1
    have ja : skipB s ia = ia := stay_of (by omega)
    have ha := PS.up ja (PS.bottom hA) (by omega) (row' := 1) (by omega) (fun q h1 h2 => by
      rw [c]
      obtain rfl | rfl | rfl : q = 1 ∨ q = 2 ∨ q = 3 := by omega
      · rfl
      · rfl
      · rfl)
    exact PS.rgo (by omega) ha (PS.imp (r := .ok b ib) (by rw [ja]; exact c) (by rw [ja]; exact c2) (by rw [ja]; exact hb 0 (by omega)))
  · have c : byteN s ia = 85 := hs.2.1
    have ja : skipB s ia = ia := stay_of (by omega)
    exact lift 3 (by omega) (PS.rgo (by omega) (PS.bottom hA) (PS.right (op := 8) (r := .ok b ib) (by rw [ja, c]; rfl) (by rw [ja]; exact hb 3 (by omega))))
  · have c : byteN s ia = 82 := hs.2.1
    have ja : skipB s ia = ia := stay_of (by omega)
    exact lift 3 (by omega) (PS.rgo (by omega) (PS.bottom hA) (PS.right (op := 9) (r := .ok b ib) (by rw [ja, c]; rfl) (by rw [ja]; exact hb 3 (by omega))))
/-- the second of two is too deep -/
theorem read_binErr {s : ByteArray} {i d ia e at' : _} {a : Tr} {op : Int} (hop : op = 4 ∨ op = 5 ∨ op = 6 ∨ op = 8 ∨ op = 9) (hA : PS s .one i d (.ok a ia)) (hs : Lies s ia (biS op)) (hB : PS s .one (ia + (biS op).length) d (.err e at')) :
    PS s (.read 0) i d (.err e at') := by
  have hb : ∀ row, row ≤ 4 → PS s (.read row) (ia + (biS op).length) d (.err e at') := fun row hr => PS.upErr (PS.bottom hB) (by omega) hr
  rcases hop with rfl | rfl | rfl | rfl | rfl
  · have c : byteN s ia = 38 := hs.2.1
    have ja : skipB s ia = ia := stay_of (by omega)
    have ha := PS.up ja (PS.bottom hA) (by omega) (row' := 3) (by omega) (fun q h1 h2 => by
      obtain rfl : q = 3 := by omega
      rw [c]
      rfl)
    exact PS.upErr (row := 2) (PS.rgo (by omega) ha (PS.lerr (op := 4) (.inr rfl) (by rw [ja, c]; rfl) (by rw [ja]; exact hb 3 (by omega)))) (by omega) (by omega)
  · have c : byteN s ia = 124 := hs.2.1
    have ja : skipB s ia = ia := stay_of (by omega)
    have ha := PS.up ja (PS.bottom hA) (by omega) (row' := 2) (by omega) (fun q h1 h2 => by
      rw [c]
      obtain rfl | rfl : q = 2 ∨ q = 3 := by omega
      · rfl
      · rfl)
    exact PS.upErr (row := 1) (PS.rgo (by omega) ha (PS.lerr (op := 5) (.inl rfl) (by rw [ja, c]; rfl) (by rw [ja]; exact hb 2 (by omega)))) (by omega) (by omega)
  · have c : byteN s ia = 45 := hs.2.1
    have c2 : byteN s (ia + 1) = 62 := hs.2.2.2.1
    have ja : skipB s ia = ia := stay_of (by omega)
    have ha := PS.up ja (PS.bottom hA) (by omega) (row' := 1) (by omega) (fun q h1 h2 => by
      rw [c]
      obtain rfl | rfl | rfl : q = 1 ∨ q = 2 ∨ q = 3 := by omega
      · rfl
      · rfl
      · rfl)
    exact PS.rgo (by omega) ha (PS.imp (r := .err e at') (by rw [ja]; exact c) (by rw [ja]; exact c2) (by rw [ja]; exact hb 0 (by omega)))
  · have c : byteN s ia = 85 := hs.2.1
    have ja : skipB s ia = ia := stay_of (by omega)
    exact PS.upErr (row := 3) (PS.rgo (by omega) (PS.bottom hA) (PS.right (op := 8) (r := .err e at') (by rw [ja, c]; rfl) (by rw [ja]; exact hb 3 (by omega)))) (by omega) (by omega)
  · have c : byteN s ia = 82 := hs.2.1
    have ja : skipB s ia = ia := stay_of (by omega)
    exact PS.upErr (row := 3) (PS.rgo (by omega) (PS.bottom hA) (PS.right (op := 9) (r := .err e at') (by rw [ja, c]; rfl) (by rw [ja]; exact hb 3 (by omega)))) (by omega) (by omega)
theorem biS_let {s : ByteArray} {i : Nat} {op : Int} (h : Lies s i (biS op)) : ¬ letB (byteN s i) := by
  unfold biS at h
  repeat' split at h
  all_goals (rw [h.2.1]; decide)
theorem kids_len {op n : Int} {l : List Tr} (h : wellN op n l.length) : (l = [] ∧ (op = 0 ∨ op = 1 ∨ op = 2)) ∨ (∃ a, l = [a] ∧ (op = 3 ∨ op = 7 ∨ op = 10 ∨ op = 11)) ∨ (∃ a b, l = [a, b] ∧ (op = 4 ∨ op = 5 ∨ op = 6 ∨ op = 8 ∨ op = 9)) := by
  obtain ⟨h1, h2, h3, _, _⟩ := h
  have h0 : ∀ {l : List Tr}, (l.length : Int) = 0 → l = [] := fun h => List.eq_nil_of_length_eq_zero (by omega)
  have h1' : ∀ {l : List Tr}, (l.length : Int) = 1 → ∃ a, l = [a] := fun {l} h => by
    match l, h with
    | [a], _ => exact ⟨a, rfl⟩
    | [], h => simp at h
    | a :: b :: r, h => simp at h; omega
  have h2' : ∀ {l : List Tr}, (l.length : Int) = 2 → ∃ a b, l = [a, b] := fun {l} h => by
    match l, h with
    | [a, b], _ => exact ⟨a, b, rfl⟩
    | [], h => simp at h
    | [a], h => simp at h
    | a :: b :: c :: r, h => simp at h; omega
  have hops : op = 0 ∨ op = 1 ∨ op = 2 ∨ op = 3 ∨ op = 4 ∨ op = 5 ∨ op = 6 ∨ op = 7 ∨ op = 8 ∨ op = 9 ∨ op = 10 ∨ op = 11 := by omega
  rcases hops with rfl | rfl | rfl | rfl | rfl | rfl | rfl | rfl | rfl | rfl | rfl | rfl
  · exact .inl ⟨h0 h3, by simp⟩
  · exact .inl ⟨h0 h3, by simp⟩
  · exact .inl ⟨h0 h3, by simp⟩
  · obtain ⟨a, e⟩ := h1' h3; exact .inr (.inl ⟨a, e, by simp⟩)
  · obtain ⟨a, b, e⟩ := h2' h3; exact .inr (.inr ⟨a, b, e, by simp⟩)
  · obtain ⟨a, b, e⟩ := h2' h3; exact .inr (.inr ⟨a, b, e, by simp⟩)
  · obtain ⟨a, b, e⟩ := h2' h3; exact .inr (.inr ⟨a, b, e, by simp⟩)
  · obtain ⟨a, e⟩ := h1' h3; exact .inr (.inl ⟨a, e, by simp⟩)
  · obtain ⟨a, b, e⟩ := h2' h3; exact .inr (.inr ⟨a, b, e, by simp⟩)
  · obtain ⟨a, b, e⟩ := h2' h3; exact .inr (.inr ⟨a, b, e, by simp⟩)
  · obtain ⟨a, e⟩ := h1' h3; exact .inr (.inl ⟨a, e, by simp⟩)
  · obtain ⟨a, e⟩ := h1' h3; exact .inr (.inl ⟨a, e, by simp⟩)
theorem word_lies {s : ByteArray} {i : Nat} {l : List UInt8} (h : Lies s i l) (hi : i ≤ s.size) (hl : ∀ b ∈ l, letB b.toNat) (hn : ¬ letB (byteN s (i + l.length))) :
    wordR s i = if l = txTrue then .ok (.mk 0 0 []) (i + l.length) else if l = txFalse then .ok (.mk 1 0 []) (i + l.length) else if l.length = 1 ∧ byteN s i ≤ 104 then .ok (.mk 2 ((byteN s i : Int) - 97) []) (i + l.length) else .err 2 i := by
  unfold wordR
  simp only [wend_lies h hl hn, h.ex hi]
  have e1 : ((⟨l.toArray⟩ : ByteArray) = ⟨#[116, 114, 117, 101]⟩) ↔ l = txTrue := by
    constructor
    · intro h; injection h with h; simpa [txTrue] using congrArg Array.toList h
    · rintro rfl; rfl
  have e2 : ((⟨l.toArray⟩ : ByteArray) = ⟨#[102, 97, 108, 115, 101]⟩) ↔ l = txFalse := by
    constructor
    · intro h; injection h with h; simpa [txFalse] using congrArg Array.toList h
    · rintro rfl; rfl
  have e3 : (i + l.length = i + 1 ∧ byteN s i ≤ 104) ↔ (l.length = 1 ∧ byteN s i ≤ 104) := by
    constructor <;> (rintro ⟨a, b⟩; exact ⟨by omega, b⟩)
  simp only [e1, e2, e3]
theorem one_word {s : ByteArray} {i d : Nat} {t : Tr} {j : Nat} (c : letB (byteN s i)) (h : wordR s i = .ok t j) : PS s .one i d (.ok t j) := by
  unfold letB at c
  have ji : skipB s i = i := stay_of (by omega)
  have := PS.word (s := s) (i := i) (d := d) (by
    rw [ji]; unfold ahd; repeat' split
    all_goals first | rfl | omega) (by rw [ji]; omega)
  rwa [ji, h] at this
theorem PS.back {s : ByteArray} : ∀ (N : Nat) (t : Tr), t.size ≤ N → t.well → ∀ (i d : Nat), i ≤ s.size → Lies s i (printT t) → ¬ letB (byteN s (i + (printT t).length)) →
    PS s .one i d (.ok t (i + (printT t).length)) ∨ ∃ a, PS s .one i d (.err 3 a) := by
  intro N
  induction N with
  | zero => intro t ht; cases t; simp [Tr.size] at ht
  | succ N ih =>
    rintro ⟨op, n, l⟩ ht ⟨hw, hws⟩ i d hi hL hn
    have hw0 := hw
    obtain ⟨-, -, -, hn0, hn1⟩ := hw0
    rcases kids_len hw with ⟨rfl, hop⟩ | ⟨a, rfl, hop⟩ | ⟨a, b, rfl, hop⟩
    · left
      rcases hop with rfl | rfl | rfl
      · have hn' : n = 0 := by have : topN 0 = 0 := rfl
                               omega
        subst hn'
        have hL' : Lies s i txTrue := hL
        exact one_word (by rw [hL'.2.1]; decide) (by rw [word_lies hL' hi (by decide) hn, if_pos rfl]; rfl)
      · have hn' : n = 0 := by have : topN 1 = 0 := rfl
                               omega
        subst hn'
        have hL' : Lies s i txFalse := hL
        exact one_word (by rw [hL'.2.1]; decide) (by rw [word_lies hL' hi (by decide) hn, if_neg (by decide), if_pos rfl]; rfl)
      · have h7 : n ≤ 7 := hn1
        have hL' : Lies s i [UInt8.ofNat (97 + n).toNat] := hL
        have hb : (UInt8.ofNat (97 + n).toNat).toNat = (97 + n).toNat := by
          rw [UInt8.toNat_ofNat']
          omega
        have hc : byteN s i = (97 + n).toNat := by rw [hL'.2.1, hb]
        have hlet : letB (byteN s i) := by unfold letB; omega
        refine one_word hlet ?_
        rw [word_lies hL' hi (by intro x hx; simp at hx; subst hx; rw [hb, ← hc]; exact hlet) hn, if_neg (fun h => by simpa [txTrue] using congrArg List.length h), if_neg (fun h => by simpa [txFalse] using congrArg List.length h), if_pos ⟨rfl, by omega⟩]
        rw [show ((byteN s i : Int) - 97) = n by omega]
        rfl
    · have hsz : a.size ≤ N := by simp [Tr.size, Tr.sizes] at ht; omega
      have hwa : a.well := hws.1
      have hn0' : n = 0 := by
        rcases hop with rfl | rfl | rfl | rfl
        all_goals (simp [topN] at hn1; omega)
      subst hn0'
      have hL' : Lies s i (unS op ++ printT a) := by simpa [printT] using hL
      obtain ⟨hL1, hL2⟩ := hL'.append
      have hlen : (unS op).length = 1 := by unfold unS; repeat' split
                                            all_goals rfl
      have hp : (printT (.mk op 0 [a])).length = 1 + (printT a).length := by simp [printT, hlen]
      rw [hlen] at hL2
      have hah : ahd (byteN s i) = some op := by
        rcases hop with rfl | rfl | rfl | rfl
        all_goals (rw [hL1.2.1]; rfl)
      have hlt : i < s.size := lt_of_byteN (ahd_ne hah).1
      have ji : skipB s i = i := stay_of (ahd_ne hah).2
      by_cases hd : d = 20
      · subst hd
        right
        exact ⟨_, PS.deep (.inl ⟨op, by rw [ji]; exact hah⟩)⟩
      · rw [hp] at hn ⊢
        rcases ih a hsz hwa (i + 1) (d + 1) (by omega) hL2 (by rw [show i + 1 + (printT a).length = i + (1 + (printT a).length) by omega]; exact hn) with h | ⟨e, h⟩
        · left
          have := PS.sign (s := s) (i := i) (d := d) (op := op) (r := .ok a (i + 1 + (printT a).length)) (by rw [ji]; exact hah) hd (by rw [ji]; exact h)
          rw [show i + (1 + (printT a).length) = i + 1 + (printT a).length by omega]
          exact this
        · right
          exact ⟨_, PS.sign (s := s) (i := i) (d := d) (op := op) (r := .err 3 e) (by rw [ji]; exact hah) hd (by rw [ji]; exact h)⟩
    · have hsz : a.size ≤ N ∧ b.size ≤ N := by simp [Tr.size, Tr.sizes] at ht; omega
      obtain ⟨hwa, hwb, _⟩ := hws
      have hn0' : n = 0 := by
        rcases hop with rfl | rfl | rfl | rfl | rfl
        all_goals (simp [topN] at hn1; omega)
      subst hn0'
      have hL' : Lies s i ([40] ++ printT a ++ biS op ++ printT b ++ [41]) := by simpa [printT] using hL
      obtain ⟨hL4, hL5⟩ := hL'.append
      obtain ⟨hL3, hLb⟩ := hL4.append
      obtain ⟨hL2, hLs⟩ := hL3.append
      obtain ⟨hL1, hLa⟩ := hL2.append
      have l1 : ([40] ++ printT a : List UInt8).length = 1 + (printT a).length := by simp; omega
      have l2 : ([40] ++ printT a ++ biS op : List UInt8).length = 1 + (printT a).length + (biS op).length := by simp; omega
      have l3 : ([40] ++ printT a ++ biS op ++ printT b : List UInt8).length = 1 + (printT a).length + (biS op).length + (printT b).length := by simp; omega
      have hp : (printT (.mk op 0 [a, b])).length = 1 + (printT a).length + (biS op).length + (printT b).length + 1 := by simp [printT]; omega
      rw [l1] at hLs
      rw [l2] at hLb
      rw [l3] at hL5
      simp only [List.length_cons, List.length_nil] at hLa
      have c : byteN s i = 40 := hL1.2.1
      have hlt : i < s.size := hL1.1
      have ji : skipB s i = i := stay_of (by omega)
      have h41 : byteN s (i + (1 + (printT a).length + (biS op).length + (printT b).length)) = 41 := hL5.2.1
      by_cases hd : d = 20
      · subst hd
        right
        exact ⟨_, PS.deep (.inr (by rw [ji]; exact c))⟩
      · rw [hp]
        have tb := hLb.top (by have := hLs.top (by have := hLa.top (by omega); omega); omega)
        have hna : ¬ letB (byteN s (i + (0 + 1) + (printT a).length)) := by
          rw [show i + (0 + 1) + (printT a).length = i + (1 + (printT a).length) by omega]
          exact biS_let hLs
        rcases ih a hsz.1 hwa (i + (0 + 1)) (d + 1) (by omega) hLa hna with hA | ⟨e, hA⟩
        · have eA : i + (0 + 1) + (printT a).length = i + (1 + (printT a).length) := by omega
          rw [eA] at hA
          have eB : i + (1 + (printT a).length + (biS op).length) = i + (1 + (printT a).length) + (biS op).length := by omega
          rw [eB] at hLb
          rcases ih b hsz.2 hwb (i + (1 + (printT a).length) + (biS op).length) (d + 1) (by omega) hLb (by
            rw [show i + (1 + (printT a).length) + (biS op).length + (printT b).length = i + (1 + (printT a).length + (biS op).length + (printT b).length) by omega, h41]
            decide) with hB | ⟨e, hB⟩
          · left
            have := read_bin hop hA hLs hB (by
              rw [show i + (1 + (printT a).length) + (biS op).length + (printT b).length = i + (1 + (printT a).length + (biS op).length + (printT b).length) by omega, h41])
            have := PS.open (s := s) (i := i) (d := d) (by rw [ji]; exact c) hd (by rw [ji]; exact this) (by
              rw [show i + (1 + (printT a).length) + (biS op).length + (printT b).length = i + (1 + (printT a).length + (biS op).length + (printT b).length) by omega, h41])
            rw [show i + (1 + (printT a).length + (biS op).length + (printT b).length + 1) = i + (1 + (printT a).length) + (biS op).length + (printT b).length + 1 by omega]
            exact this
          · right
            exact ⟨_, PS.oerr (s := s) (i := i) (d := d) (by rw [ji]; exact c) hd (by rw [ji]; exact read_binErr hop hA hLs hB)⟩
        · right
          exact ⟨_, PS.oerr (s := s) (i := i) (d := d) (by rw [ji]; exact c) hd (by rw [ji]; exact PS.upErr (PS.bottom hA) (by omega) (by omega))⟩
/-- what is written is read as the same, if it is not too deep -/
theorem PW.back (t : Tr) (ht : t.well) : PW ⟨(printT t).toArray⟩ (.ok t (printT t).length) ∨ ∃ a, PW ⟨(printT t).toArray⟩ (.err 3 a) := by
  have hs : (⟨(printT t).toArray⟩ : ByteArray).size = (printT t).length := by
    show (printT t).toArray.size = _
    simp
  rcases PS.back (s := ⟨(printT t).toArray⟩) t.size t (Nat.le_refl _) ht 0 0 (by omega) (Lies.self _) (by
    rw [byteN_end (by omega)]; decide) with h | ⟨a, h⟩
  · left
    rw [Nat.zero_add] at h
    have e0 : byteN ⟨(printT t).toArray⟩ (printT t).length = 0 := byteN_end (by omega)
    have j0 : skipB ⟨(printT t).toArray⟩ (printT t).length = (printT t).length := stay_of (by omega)
    refine ⟨_, PS.up j0 (PS.bottom h) (by omega) (by omega) (fun q _ _ => by rw [e0]; exact sgn_0 q), ?_⟩
    simp only
    rw [if_neg (by omega)]
  · right
    exact ⟨a, _, PS.upErr (PS.bottom h) (by omega) (by omega), rfl⟩
end Go.Proofs.YtdbpdanocpfboaaDoor
