/- Walks of package word: the closures of row. -/
import Derived.Test.YtdbpdanocpfboaaDoorVRow2
namespace Go.Proofs.YtdbpdanocpfboaaDoor
open Go.RowKit Go.Shelf

/-- is letter n in the set x? -/
def bitB (x n : Int) : Bool := bits BinOp.and IntKind.i64 (x / 2 ^ n.toNat) 1 == 1

theorem en97 : ∀ args w, (callFunc 95 args).run Tryd.prog w = .ok (.enter 95 args) w := enters_of Tryd.func95 (by kernel_rfl) rfl
theorem en98 : ∀ args w, (callFunc 96 args).run Tryd.prog w = .ok (.enter 96 args) w := enters_of Tryd.func96 (by kernel_rfl) rfl
theorem en100 : ∀ args w, (callFunc 98 args).run Tryd.prog w = .ok (.enter 98 args) w := enters_of Tryd.func98 (by kernel_rfl) rfl
theorem en101 : ∀ args w, (callFunc 99 args).run Tryd.prog w = .ok (.enter 99 args) w := enters_of Tryd.func99 (by kernel_rfl) rfl
theorem en102 : ∀ args w, (callFunc 100 args).run Tryd.prog w = .ok (.enter 100 args) w := enters_of Tryd.func100 (by kernel_rfl) rfl
theorem en103 : ∀ args w, (callFunc 101 args).run Tryd.prog w = .ok (.enter 101 args) w := enters_of Tryd.func101 (by kernel_rfl) rfl
theorem en106 : ∀ args w, (callFunc 104 args).run Tryd.prog w = .ok (.enter 104 args) w := enters_of Tryd.func104 (by kernel_rfl) rfl
theorem en107 : ∀ args w, (callFunc 105 args).run Tryd.prog w = .ok (.enter 105 args) w := enters_of Tryd.func105 (by kernel_rfl) rfl
theorem en108 : ∀ args w, (callFunc 106 args).run Tryd.prog w = .ok (.enter 106 args) w := enters_of Tryd.func106 (by kernel_rfl) rfl
theorem en109 : ∀ args w, (callFunc 107 args).run Tryd.prog w = .ok (.enter 107 args) w := enters_of Tryd.func107 (by kernel_rfl) rfl
theorem en110 : ∀ args w, (callFunc 108 args).run Tryd.prog w = .ok (.enter 108 args) w := enters_of Tryd.func108 (by kernel_rfl) rfl
set_option maxHeartbeats 400000 in
theorem cl97 (x : Int) (w : World) : Calls Tryd.prog 95 #[.int .i64 x] w fun e w'' => e = .returned (.bool true) ∧ w'' = w := by
  go_enter Tryd.func95, Tryd.ntmps95
  go_wp2
  go_ret
  exact ⟨rfl, rfl⟩
set_option maxHeartbeats 400000 in
theorem cl110 (x : Int) (w : World) : Calls Tryd.prog 108 #[.int .i64 x] w fun e w'' => e = .returned (.bool false) ∧ w'' = w := by
  go_enter Tryd.func108, Tryd.ntmps108
  go_wp2
  go_ret
  exact ⟨rfl, rfl⟩
set_option maxHeartbeats 400000 in
theorem cl100 (x y : Bool) (w : World) : Calls Tryd.prog 98 #[.bool x, .bool y] w fun e w'' => e = .returned (.bool (!x)) ∧ w'' = w := by
  go_enter Tryd.func98, Tryd.ntmps98
  go_wp2
  go_ret
  exact ⟨rfl, rfl⟩
set_option maxHeartbeats 400000 in
theorem cl101 (x y : Bool) (w : World) : Calls Tryd.prog 99 #[.bool x, .bool y] w fun e w'' => e = .returned (.bool (x && y)) ∧ w'' = w := by
  cases x
  all_goals
    go_enter Tryd.func99, Tryd.ntmps99
    go_wp2
    go_ret
    exact ⟨rfl, rfl⟩
set_option maxHeartbeats 400000 in
theorem cl102 (x y : Bool) (w : World) : Calls Tryd.prog 100 #[.bool x, .bool y] w fun e w'' => e = .returned (.bool (x || y)) ∧ w'' = w := by
  cases x
  all_goals
    go_enter Tryd.func100, Tryd.ntmps100
    go_wp2
    go_ret
    exact ⟨rfl, rfl⟩
set_option maxHeartbeats 400000 in
theorem cl103 (x y : Bool) (w : World) : Calls Tryd.prog 101 #[.bool x, .bool y] w fun e w'' => e = .returned (.bool (!x || y)) ∧ w'' = w := by
  cases x
  all_goals
    go_enter Tryd.func101, Tryd.ntmps101
    go_wp2
    go_ret
    exact ⟨rfl, rfl⟩
set_option maxHeartbeats 400000 in
theorem cl106 (x y z : Bool) (w : World) : Calls Tryd.prog 104 #[.bool x, .bool y, .bool z] w fun e w'' => e = .returned (.bool (y || x && z)) ∧ w'' = w := by
  cases x <;> cases y
  all_goals
    go_enter Tryd.func104, Tryd.ntmps104
    go_wp2
    go_ret
    exact ⟨rfl, rfl⟩
set_option maxHeartbeats 400000 in
theorem cl107 (x y z : Bool) (w : World) : Calls Tryd.prog 105 #[.bool x, .bool y, .bool z] w fun e w'' => e = .returned (.bool (y && (x || z))) ∧ w'' = w := by
  cases x <;> cases y
  all_goals
    go_enter Tryd.func105, Tryd.ntmps105
    go_wp2
    go_ret
    exact ⟨rfl, rfl⟩
set_option maxHeartbeats 400000 in
theorem cl108 (x y z : Bool) (w : World) : Calls Tryd.prog 106 #[.bool x, .bool y, .bool z] w fun e w'' => e = .returned (.bool (y || z)) ∧ w'' = w := by
  cases y
  all_goals
    go_enter Tryd.func106, Tryd.ntmps106
    go_wp2
    go_ret
    exact ⟨rfl, rfl⟩
set_option maxHeartbeats 400000 in
theorem cl109 (x y z : Bool) (w : World) : Calls Tryd.prog 107 #[.bool x, .bool y, .bool z] w fun e w'' => e = .returned (.bool (y && z)) ∧ w'' = w := by
  cases y
  all_goals
    go_enter Tryd.func107, Tryd.ntmps107
    go_wp2
    go_ret
    exact ⟨rfl, rfl⟩
set_option maxHeartbeats 400000 in
theorem cl98 (x n : Int) (bx : Nat) (w : World) (hc : w.cell? ⟨bx, 1, none⟩ = some (.int .i64 n)) (hn : 0 ≤ n ∧ n ≤ 7) : Calls Tryd.prog 96 #[.int .i64 x, .pointer (some ⟨bx, 0, none⟩)] w fun e w'' => e = .returned (.bool (bitB x n)) ∧ w'' = w := by
  go_enter Tryd.func96, Tryd.ntmps96
  go_wp2
  go_ret
  exact ⟨rfl, rfl⟩

def pUntil (v w l : Bool) : Bool := w || v && l
def pRelease (v w l : Bool) : Bool := w && (v || l)
def pFin (_ w l : Bool) : Bool := w || l
def pGlob (_ w l : Bool) : Bool := w && l
/-- what hangs on two rows and on itself one place later, round and round -/
def backRow (p : Bool → Bool → Bool → Bool) (st : Bool) (us vs : List Bool) (lp : Nat) : List Bool := (List.range us.length).map (atB p (later p st us vs lp 1) us vs)
/-- where a Node is true, of whose Kids that is told -/
def rowOp (xs : List Int) (lp : Nat) (op n : Int) (a b : List Bool) : List Bool :=
  if op = 0 then xs.map (fun _ => true)
  else if op = 2 then xs.map (fun x => bitB x n)
  else if op = 3 then List.zipWith (fun v _ => !v) a a
  else if op = 4 then List.zipWith (fun v w => v && w) a b
  else if op = 5 then List.zipWith (fun v w => v || w) a b
  else if op = 6 then List.zipWith (fun v w => !v || w) a b
  else if op = 7 then a.drop 1 ++ [a.getD lp false]
  else if op = 8 then backRow pUntil false a b lp
  else if op = 9 then backRow pRelease true a b lp
  else if op = 10 then backRow pFin false a a lp
  else if op = 11 then backRow pGlob true a a lp
  else xs.map (fun _ => false)

/-- a row of the program's, to be read -/
def RowR (w : World) (v : Value) (us : List Bool) : Prop := ∃ b, v = .slice (some ⟨b, 0, none⟩) us.length us.length ∧ ∀ i (h : i < us.length), w.cell? ⟨b, i, none⟩ = some (.bool us[i])
theorem RowR.kept {w w' : World} {v : Value} {us : List Bool} (h : RowR w v us) (hk : Kept (fun _ => False) w w') : RowR w' v us := by
  obtain ⟨b, e, hc⟩ := h
  exact ⟨b, e, fun i hi => (hk.cell (p := ⟨b, i, none⟩) (lt_of_cell (hc i hi)) (fun f => f)).trans (hc i hi)⟩

/-- what row answers -/
def Post62 (w : World) (bs : List Bool) (e : Ending) (w' : World) : Prop := ∃ b v, e = .returned v ∧ w.heap.size ≤ b ∧ RowAt w' b v bs ∧ Kept (fun _ => False) w w'

set_option maxRecDepth 100000 in
set_option maxHeartbeats 2000000 in
theorem row62_leaf (w : World) (xb xo xc lp : Nat) (xs : List Int) (op n : Int) (rv : Value) (hl : xs.length ≤ 20000) (hc : ∀ i, (h : i < xs.length) → w.cell? ⟨xb, xo + i, none⟩ = some (.int .i64 xs[i])) (hn : 0 ≤ n ∧ n ≤ 7) (hop : op = 0 ∨ op = 1 ∨ op = 2) :
    Calls Tryd.prog 62 #[.agg #[.slice (some ⟨xb, xo, none⟩) xs.length xc, .int .i64 (lp : Int)], ndV op n (-1) (-1), rv] w fun e w' => Post62 w (rowOp xs lp op n [] []) e w' := by
  have lx : ∀ i, i < xs.length → xb < w.heap.size := fun i hi => lt_of_cell (hc i hi)
  have hk2 : Kept (fun _ => False) w ((w.alloc (.cells #[.slice (some ⟨xb, xo, none⟩) xs.length xc, .int .i64 (lp : Int)] 97)).alloc (.cells #[.int .i64 op, .int .i64 n, .int .i64 (-1), .int .i64 (-1)] 102)) := ((Kept.refl _ _).alloc _).alloc _
  have hc2 : ∀ i, (h : i < xs.length) → ((w.alloc (.cells #[.slice (some ⟨xb, xo, none⟩) xs.length xc, .int .i64 (lp : Int)] 97)).alloc (.cells #[.int .i64 op, .int .i64 n, .int .i64 (-1), .int .i64 (-1)] 102)).cell? ⟨xb, xo + i, none⟩ = some (.int .i64 xs[i]) := fun i hi => (hk2.cell (p := ⟨xb, xo + i, none⟩) (lx i hi) (fun f => f)).trans (hc i hi)
  have hb1 : ((w.alloc (.cells #[.slice (some ⟨xb, xo, none⟩) xs.length xc, .int .i64 (lp : Int)] 97)).alloc (.cells #[.int .i64 op, .int .i64 n, .int .i64 (-1), .int .i64 (-1)] 102)).cell? ⟨w.heap.size + 1, 1, none⟩ = some (.int .i64 n) := by rw [World.cell?_alloc_at (hn := by simp)]; rfl
  have HB : Hid _ := hb1
  have HC : Hid _ := hc2
  have HK : Hid _ := hk2
  clear hc2 hk2 hc lx hb1
  unfold ndV
  rcases hop with rfl | rfl | rfl
  · go_enter Tryd.func62, Tryd.ntmps62
    go_wp2_with (go_at_call 94; refine (where96 _ xb xo xc xs 95 #[] (fun _ => true) hl HC.out en97 (fun x w' _ => cl97 x w')).mono ?_; rintro e w' ⟨b, v, rfl, h1, h2, h3⟩)
    go_ret
    exact ⟨b, v, rfl, by have := HK.out.size; omega, by simpa [rowOp] using h2, HK.out.trans h3 (fun _ _ f => f)⟩
  · go_enter Tryd.func62, Tryd.ntmps62
    go_wp2_with (go_at_call 94; refine (where96 _ xb xo xc xs 108 #[] (fun _ => false) hl HC.out en110 (fun x w' _ => cl110 x w')).mono ?_; rintro e w' ⟨b, v, rfl, h1, h2, h3⟩)
    go_ret
    exact ⟨b, v, rfl, by have := HK.out.size; omega, by simpa [rowOp] using h2, HK.out.trans h3 (fun _ _ f => f)⟩
  · go_enter Tryd.func62, Tryd.ntmps62
    go_wp2_with (go_at_call 94; refine (where96m _ xb xo xc xs 96 #[.pointer (some ⟨w.heap.size + 1, 0, none⟩)] (fun x => bitB x n) hl HC.out en98 (fun x _ w' hk => cl98 x n _ w' ((hk.cell (p := ⟨w.heap.size + 1, 1, none⟩) (lt_of_cell HB.out) (fun f => f)).trans HB.out) hn)).mono ?_; rintro e w' ⟨b, v, rfl, h1, h2, h3⟩)
    go_ret
    exact ⟨b, v, rfl, by have := HK.out.size; omega, by simpa [rowOp] using h2, HK.out.trans h3 (fun _ _ f => f)⟩

set_option maxRecDepth 100000 in
set_option maxHeartbeats 2000000 in
theorem row62_un (w : World) (xb xo xc lp rb M l : Nat) (xs : List Int) (op : Int) (av : Value) (us : List Bool) (hl : xs.length ≤ 20000) (hul : us.length = xs.length) (hlp : lp < xs.length) (hlM : l < M) (hrl : w.cell? ⟨rb, l, none⟩ = some av) (ha : RowR w av us) (hop : op = 3 ∨ op = 7 ∨ op = 10 ∨ op = 11) :
    Calls Tryd.prog 62 #[.agg #[.slice (some ⟨xb, xo, none⟩) xs.length xc, .int .i64 (lp : Int)], ndV op 0 (l : Int) (-1), .slice (some ⟨rb, 0, none⟩) M M] w fun e w' => Post62 w (rowOp xs lp op 0 us []) e w' := by
  have hk2 : Kept (fun _ => False) w ((w.alloc (.cells #[.slice (some ⟨xb, xo, none⟩) xs.length xc, .int .i64 (lp : Int)] 97)).alloc (.cells #[.int .i64 op, .int .i64 0, .int .i64 (l : Int), .int .i64 (-1)] 102)) := ((Kept.refl _ _).alloc _).alloc _
  have hr2 : ((w.alloc (.cells #[.slice (some ⟨xb, xo, none⟩) xs.length xc, .int .i64 (lp : Int)] 97)).alloc (.cells #[.int .i64 op, .int .i64 0, .int .i64 (l : Int), .int .i64 (-1)] 102)).cell? ⟨rb, l, none⟩ = some av := (hk2.cell (p := ⟨rb, l, none⟩) (lt_of_cell hrl) (fun f => f)).trans hrl
  obtain ⟨ab, rfl, hac⟩ := ha.kept hk2
  have HA : Hid _ := hac
  have HK : Hid _ := hk2
  have HU : Hid _ := hul
  have hul2 : us.length ≤ 20000 := by omega
  have hlp2 : lp < us.length := by omega
  have z1 : ((l : Int) != -1) = true := by rw [bne_iff_ne]; omega
  have hlMi : (l : Int) < (M : Int) := by omega
  clear hk2 hac hrl ha hul
  unfold ndV
  rcases hop with rfl | rfl | rfl | rfl
  · go_enter Tryd.func62, Tryd.ntmps62
    go_wp2_with (go_at_call 97; refine (join99 _ ab ab us us 98 (fun v _ => !v) hul2 rfl HA.out HA.out en100 (fun x y w' => cl100 x y w')).mono ?_; rintro e w' ⟨b, v, rfl, h1, h2, h3⟩)
    go_ret
    exact ⟨b, v, rfl, by have := HK.out.size; omega, by simpa [rowOp] using h2, HK.out.trans h3 (fun _ _ f => f)⟩
  · cases us with
    | nil => simp at hlp2
    | cons x us =>
      have g0 := HA.out 0 (by simp)
      have g1 : ∀ i, (h : i < us.length) → _ := fun i hi => HA.out (i + 1) (by simpa using hi)
      have G1 : Hid _ := g1
      have G0 : Hid _ := g0
      have hul3 : us.length + 1 ≤ 20000 := by simpa using hul2
      have hlp3 : lp < us.length + 1 := by simpa using hlp2
      clear g0 g1 HA
      simp only [List.length_cons] at *
      go_enter Tryd.func62, Tryd.ntmps62
      go_wp2_with (go_at_call 102; refine (next104 _ ab lp x us hul3 hlp3 G0.out G1.out).mono ?_; rintro e w' ⟨b, v, rfl, h1, h2, h3⟩)
      go_ret
      exact ⟨b, v, rfl, by have := HK.out.size; omega, by simpa [rowOp] using h2, HK.out.trans h3 (fun _ _ f => f)⟩
  · go_enter Tryd.func62, Tryd.ntmps62
    go_wp2_with (go_at_call 103; refine (back105 _ ab ab lp us us false 106 pFin hul2 rfl hlp2 HA.out HA.out en108 (fun x y z w' => cl108 x y z w')).mono ?_; rintro e w' ⟨b, v, rfl, h1, h2, h3⟩)
    go_ret
    exact ⟨b, v, rfl, by have := HK.out.size; omega, by simpa [rowOp, backRow] using h2, HK.out.trans h3 (fun _ _ f => f)⟩
  · go_enter Tryd.func62, Tryd.ntmps62
    go_wp2_with (go_at_call 103; refine (back105 _ ab ab lp us us true 107 pGlob hul2 rfl hlp2 HA.out HA.out en109 (fun x y z w' => cl109 x y z w')).mono ?_; rintro e w' ⟨b, v, rfl, h1, h2, h3⟩)
    go_ret
    exact ⟨b, v, rfl, by have := HK.out.size; omega, by simpa [rowOp, backRow] using h2, HK.out.trans h3 (fun _ _ f => f)⟩

set_option maxRecDepth 100000 in
set_option maxHeartbeats 2000000 in
theorem row62_bi (w : World) (xb xo xc lp rb M l r : Nat) (xs : List Int) (op : Int) (av bv : Value) (us vs : List Bool) (hl : xs.length ≤ 20000) (hul : us.length = xs.length) (hvl : vs.length = xs.length) (hlp : lp < xs.length) (hlM : l < M) (hrM : r < M) (hrl : w.cell? ⟨rb, l, none⟩ = some av) (hrr : w.cell? ⟨rb, r, none⟩ = some bv) (ha : RowR w av us) (hb : RowR w bv vs) (hop : op = 4 ∨ op = 5 ∨ op = 6 ∨ op = 8 ∨ op = 9) :
    Calls Tryd.prog 62 #[.agg #[.slice (some ⟨xb, xo, none⟩) xs.length xc, .int .i64 (lp : Int)], ndV op 0 (l : Int) (r : Int), .slice (some ⟨rb, 0, none⟩) M M] w fun e w' => Post62 w (rowOp xs lp op 0 us vs) e w' := by
  have hk2 : Kept (fun _ => False) w ((w.alloc (.cells #[.slice (some ⟨xb, xo, none⟩) xs.length xc, .int .i64 (lp : Int)] 97)).alloc (.cells #[.int .i64 op, .int .i64 0, .int .i64 (l : Int), .int .i64 (r : Int)] 102)) := ((Kept.refl _ _).alloc _).alloc _
  have hr2 : ((w.alloc (.cells #[.slice (some ⟨xb, xo, none⟩) xs.length xc, .int .i64 (lp : Int)] 97)).alloc (.cells #[.int .i64 op, .int .i64 0, .int .i64 (l : Int), .int .i64 (r : Int)] 102)).cell? ⟨rb, l, none⟩ = some av := (hk2.cell (p := ⟨rb, l, none⟩) (lt_of_cell hrl) (fun f => f)).trans hrl
  have hr3 : ((w.alloc (.cells #[.slice (some ⟨xb, xo, none⟩) xs.length xc, .int .i64 (lp : Int)] 97)).alloc (.cells #[.int .i64 op, .int .i64 0, .int .i64 (l : Int), .int .i64 (r : Int)] 102)).cell? ⟨rb, r, none⟩ = some bv := (hk2.cell (p := ⟨rb, r, none⟩) (lt_of_cell hrr) (fun f => f)).trans hrr
  obtain ⟨ab, rfl, hac⟩ := ha.kept hk2
  obtain ⟨bb, rfl, hbc⟩ := hb.kept hk2
  have HA : Hid _ := hac
  have HB : Hid _ := hbc
  have HK : Hid _ := hk2
  have hul2 : us.length ≤ 20000 := by omega
  have hlp2 : lp < us.length := by omega
  have hvu : vs.length = us.length := by omega
  have HVU : Hid _ := hvu
  have z1 : ((l : Int) != -1) = true := by rw [bne_iff_ne]; omega
  have z2 : ((r : Int) != -1) = true := by rw [bne_iff_ne]; omega
  have hlMi : (l : Int) < (M : Int) := by omega
  have hrMi : (r : Int) < (M : Int) := by omega
  rw [hvu] at hr3
  clear hk2 hac hbc hrl hrr ha hb hul hvl hvu
  unfold ndV
  rcases hop with rfl | rfl | rfl | rfl | rfl
  · go_enter Tryd.func62, Tryd.ntmps62
    go_wp2_with (go_at_call 97; refine (join99 _ ab bb us vs 99 (fun v w => v && w) hul2 HVU.out HA.out HB.out en101 (fun x y w' => cl101 x y w')).mono ?_; rintro e w' ⟨b, v, rfl, h1, h2, h3⟩)
    go_ret
    exact ⟨b, v, rfl, by have := HK.out.size; omega, by simpa [rowOp] using h2, HK.out.trans h3 (fun _ _ f => f)⟩
  · go_enter Tryd.func62, Tryd.ntmps62
    go_wp2_with (go_at_call 97; refine (join99 _ ab bb us vs 100 (fun v w => v || w) hul2 HVU.out HA.out HB.out en102 (fun x y w' => cl102 x y w')).mono ?_; rintro e w' ⟨b, v, rfl, h1, h2, h3⟩)
    go_ret
    exact ⟨b, v, rfl, by have := HK.out.size; omega, by simpa [rowOp] using h2, HK.out.trans h3 (fun _ _ f => f)⟩
  · go_enter Tryd.func62, Tryd.ntmps62
    go_wp2_with (go_at_call 97; refine (join99 _ ab bb us vs 101 (fun v w => !v || w) hul2 HVU.out HA.out HB.out en103 (fun x y w' => cl103 x y w')).mono ?_; rintro e w' ⟨b, v, rfl, h1, h2, h3⟩)
    go_ret
    exact ⟨b, v, rfl, by have := HK.out.size; omega, by simpa [rowOp] using h2, HK.out.trans h3 (fun _ _ f => f)⟩
  · go_enter Tryd.func62, Tryd.ntmps62
    go_wp2_with (go_at_call 103; refine (back105 _ ab bb lp us vs false 104 pUntil hul2 HVU.out hlp2 HA.out HB.out en106 (fun x y z w' => cl106 x y z w')).mono ?_; rintro e w' ⟨b, v, rfl, h1, h2, h3⟩)
    go_ret
    exact ⟨b, v, rfl, by have := HK.out.size; omega, by simpa [rowOp, backRow] using h2, HK.out.trans h3 (fun _ _ f => f)⟩
  · go_enter Tryd.func62, Tryd.ntmps62
    go_wp2_with (go_at_call 103; refine (back105 _ ab bb lp us vs true 105 pRelease hul2 HVU.out hlp2 HA.out HB.out en107 (fun x y z w' => cl107 x y z w')).mono ?_; rintro e w' ⟨b, v, rfl, h1, h2, h3⟩)
    go_ret
    exact ⟨b, v, rfl, by have := HK.out.size; omega, by simpa [rowOp, backRow] using h2, HK.out.trans h3 (fun _ _ f => f)⟩
end Go.Proofs.YtdbpdanocpfboaaDoor
