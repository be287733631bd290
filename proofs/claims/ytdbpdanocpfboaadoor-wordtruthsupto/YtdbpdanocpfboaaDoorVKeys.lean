/- The keys of the two maps of package nodes: pointers to Forms, Nodes. -/
import Derived.Test.YtdbpdanocpfboaaDoorProg
import Derived.Test.YtdbpdanocpfboaaDoorVGmap
import Derived.WalkKit
import Derived.LaidEql
namespace Go.Proofs.YtdbpdanocpfboaaDoor
open Go.RowKit

/-- a block of plain cells, none frozen -/
def PlainB (w : World) (b : Nat) : Prop := ∃ c t, w.heap[b]? = some (.cells c t (0, 0))
def isPtr (w : World) (v : Value) : Prop := ∃ b o, v = .pointer (some ⟨b, o, none⟩) ∧ PlainB w b
def ndV (a b c d : Int) : Value := .agg #[.int .i64 a, .int .i64 b, .int .i64 c, .int .i64 d]
def isNode (_ : World) (v : Value) : Prop := ∃ a b c d, v = ndV a b c d

theorem PlainB.of_block {w w' : World} {b : Nat} (h : PlainB w b) (e : w'.heap[b]? = w.heap[b]?) : PlainB w' b := by
  obtain ⟨c, t, h⟩ := h
  exact ⟨c, t, e.trans h⟩

theorem ptr_eq {w : World} {b o b' o' : Nat} (h : PlainB w b) (h' : PlainB w b') : (Op.equal 118 (.pointer (some ⟨b, o, none⟩)) (.pointer (some ⟨b', o', none⟩))).run Tryd.prog w = .ok ((⟨b, o, none⟩ : Addr) == ⟨b', o', none⟩) w := by
  unfold Op.equal Op.maxDepth Op.equalIn
  simp [run_underlying Tryd.underlying118, Result.andThen]
  obtain ⟨c, t, h⟩ := h
  obtain ⟨c', t', h'⟩ := h'
  by_cases he : (⟨b, o, none⟩ : Addr) = ⟨b', o', none⟩
  · rw [he, run_sameAddr_same]; simp
  · rw [run_sameAddr_other w he h h']; simp [he]

theorem ptrKey : KeyOk Tryd.prog 118 isPtr where
  check := by
    rintro w _ ⟨b, o, rfl, _⟩ e
    kernel_rfl
  eq := by
    rintro w _ _ ⟨b, o, rfl, h⟩ ⟨b', o', rfl, h'⟩
    exact ⟨(⟨b, o, none⟩ : Addr) == ⟨b', o', none⟩, ptr_eq h h', by simp⟩
  now := ⟨_, Tryd.underlying118, by
    rintro w _ _ ⟨b, o, rfl, _⟩ ⟨b', o', rfl, _⟩
    rfl⟩
  bits := by
    rintro w _ ⟨b, o, rfl, _⟩
    simp [Instr.sameBits]
  stay := by
    rintro w b es es' c c' _ hb ⟨b', o', rfl, cs, t, hp⟩
    refine ⟨b', o', rfl, cs, t, ?_⟩
    by_cases he : b' = b
    · subst he; rw [hb] at hp; cases hp
    · exact ((MapKept.heap_set hb).2 b' he).trans hp

theorem int_eq (n : Nat) (a b : Int) (w : World) : (Op.equalIn (n + 1) 3 (.int .i64 a) (.int .i64 b)).run Tryd.prog w = .ok (a == b) w := by
  simp [Op.equalIn, run_underlying Tryd.underlying3]

theorem part0 (a b c d : Int) (w : World) : (part 3 #[.int .i64 a, .int .i64 b, .int .i64 c, .int .i64 d] 0).run Tryd.prog w = .ok (.int .i64 a) w := by kernel_rfl
theorem part1 (a b c d : Int) (w : World) : (part 3 #[.int .i64 a, .int .i64 b, .int .i64 c, .int .i64 d] 1).run Tryd.prog w = .ok (.int .i64 b) w := by kernel_rfl
theorem part2 (a b c d : Int) (w : World) : (part 3 #[.int .i64 a, .int .i64 b, .int .i64 c, .int .i64 d] 2).run Tryd.prog w = .ok (.int .i64 c) w := by kernel_rfl
theorem part3 (a b c d : Int) (w : World) : (part 3 #[.int .i64 a, .int .i64 b, .int .i64 c, .int .i64 d] 3).run Tryd.prog w = .ok (.int .i64 d) w := by kernel_rfl
theorem int_eq' (a b : Int) (w : World) : (Op.equalIn 9999 3 (.int .i64 a) (.int .i64 b)).run Tryd.prog w = .ok (a == b) w := int_eq 9998 a b w

theorem node_eq (a b c d a' b' c' d' : Int) (w : World) : (Op.equal 102 (ndV a b c d) (ndV a' b' c' d')).run Tryd.prog w = .ok ((a == a') && (b == b') && (c == c') && (d == d')) w := by
  unfold Op.equal Op.maxDepth Op.equalIn ndV
  simp [run_underlying Tryd.underlying102, Result.andThen]
  by_cases h1 : a = a' <;> by_cases h2 : b = b' <;> by_cases h3 : c = c' <;> by_cases h4 : d = d' <;>
    simp [part0, part1, part2, part3, int_eq', h1, h2, h3, h4, Result.andThen]

theorem nodeKey : KeyOk Tryd.prog 102 isNode where
  check := by
    rintro w _ ⟨a, b, c, d, rfl⟩ e
    kernel_rfl
  eq := by
    rintro w _ _ ⟨a, b, c, d, rfl⟩ ⟨a', b', c', d', rfl⟩
    exact ⟨(a == a') && (b == b') && (c == c') && (d == d'), node_eq .., by simp [ndV, and_assoc]⟩
  now := ⟨_, Tryd.underlying102, by
    rintro w _ _ ⟨a, b, c, d, rfl⟩ ⟨a', b', c', d', rfl⟩
    rfl⟩
  bits := by
    rintro w _ ⟨a, b, c, d, rfl⟩
    simp [Instr.sameBits, ndV]
  stay := by
    intro w b es es' c c' k _ h
    exact h
end Go.Proofs.YtdbpdanocpfboaaDoor
