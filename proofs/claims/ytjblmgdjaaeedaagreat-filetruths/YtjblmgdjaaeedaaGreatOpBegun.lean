/- The contract of op's laws' own 'begun': it answers true. -/
import Derived.Test.YtjblmgdjaaeedaaGreatOpG
import Derived.Test.YtjblmgdjaaeedaaGreatBaseKind
import Derived.Test.YtjblmgdjaaeedaaGreatBaseOp
namespace Go.Proofs.YtjblmgdjaaeedaaGreat
namespace Op4
open Num Kind
open Go.RowKit
set_option linter.unusedVariables false
set_option maxRecDepth 100000

theorem kbegun_any (w : World) : Calls Tryz.prog 136 #[] w fun e w' => e = .returned (.bool true) ∧ w = w' := by
  go_enter Tryz.func136, Tryz.ntmps136
  go_wp2_with fail
  refine (Kind.begun_any _).mono ?_
  rintro e w' ⟨rfl, rfl⟩
  go_wp2_with fail
  go_ret
  exact ⟨rfl, rfl⟩

set_option maxRecDepth 100000 in
set_option maxHeartbeats 2000000 in
theorem begun_any (w : World) : Calls Tryz.prog 101 #[] w fun e w' => e = .returned (.bool true) ∧ Below w.heap.size w w' := by
  obtain ⟨i0, hi, hz0, hz1, hz2⟩ := info_parts info8
  have p1 : putI 43 0 ⟨#[65, 98]⟩ ⟨#[102]⟩ = [86, 4, 65, 98, 2, 102] := by decide +kernel
  have g1 : getI [86, 4, 65, 98, 2, 102, 1] = ((43, 0, [65, 98], [102]), 6, 0) := by decide +kernel
  have g2 : getI [] = failI 2 := by decide +kernel
  have g3 : getI [0] = failI 1 := by decide +kernel
  have m1 : mayIns 43 0 (nums ⟨#[65, 98]⟩) (nums ⟨#[102]⟩) = true := by decide +kernel
  have m2 : mayIns 43 0 (nums ⟨#[]⟩) (nums ⟨#[]⟩) = false := by decide +kernel
  have q1 : eqB 43 0 ⟨#[65, 98]⟩ ⟨#[102]⟩ 43 0 (strOfNums [65, 98]) (strOfNums [102]) = true := by decide +kernel
  have b0 : Below w.heap.size w (w.alloc (.cells #[.int .i64 43, .int .i64 0, .string ⟨#[65, 98]⟩, .string ⟨#[102]⟩] 48)) := (Below.refl _ _).alloc (Nat.le_refl _) _
  have X0 := InsAt.new w 43 0 ⟨#[65, 98]⟩ ⟨#[102]⟩ 48
  go_enter Tryz.func101, Tryz.ntmps101
  go_wp2_with fail
  refine (oput_any none 0 0 [] 43 0 ⟨#[65, 98]⟩ ⟨#[102]⟩ _ (Has.none _) (by unfold Is64; omega) (by unfold Is64; omega) (by decide) (by decide) (by decide) m1).mono ?_
  rintro e w1 ⟨ga, ca, l, hl, rfl, own1, b1⟩
  rw [p1] at hl own1
  simp only [List.length_cons, List.length_nil, Nat.zero_add, Nat.reduceAdd] at hl
  subst hl
  simp only [List.nil_append] at own1
  have X1 := X0.later b1
  have e1 := b0.trans (b1.mono b0.size)
  have h1 := Has.own own1
  clear X0 b0 b1 own1 p1
  go_wp2_with (first | (at_builtin; refine wpList_has _ rfl (.const (.slice none 0 0)) (.tmp 16) 29 rfl w1.heap.size i0 Tryz.underlying29 hi hz0 hz1 hz2 _ 0 [] rfl (World.ownsRow_nil _ _ _ _) _ _ _ [86, 4, 65, 98, 2, 102] rfl h1 (by omega) (Nat.le_refl _) ?_; intro aE cE w2 oE hE gE; simp only [Nat.zero_add, List.nil_append] at oE hE; have f2 : Below w1.heap.size w1 w2 := (Below.refl _ _).grown gE (Nat.le_refl _) (fun k e => by cases e)) | (at_builtin; refine wpList_has _ rfl (.tmp 17) (.tmp 18) 29 rfl w1.heap.size i0 Tryz.underlying29 hi hz0 hz1 hz2 _ 6 [86, 4, 65, 98, 2, 102] rfl (oE.alloc _) _ _ _ [1] rfl (Has.lit w2 [1] (by decide)) (by omega) (Nat.le_trans f2.size (by simp)) ?_; intro aF cF w3 oF hF gF))
  have f3 : Below w1.heap.size w1 w3 := (f2.alloc f2.size _).grown gF (Nat.le_trans f2.size (by simp)) (fun k e => (oE.lt k e).1)
  have e3 := e1.trans (f3.mono e1.size)
  have X3 := X1.later f3
  clear X1 h1 oE hE gE f2 oF gF f3
  refine (oget_any _ _ _ _ _ hF (by intro x hx; simp at hx; omega) (by omega)).mono ?_
  rintro e w4 ⟨rfl, b4⟩
  rw [show [86, 4, 65, 98, 2, 102] ++ [1] = ([86, 4, 65, 98, 2, 102, 1] : List Int) from rfl, g1]
  simp only [resI, insV]
  have X4 := (X3.later b4).alloc (.cells #[.int .i64 43, .int .i64 0, .string (strOfNums [65, 98]), .string (strOfNums [102])] 48)
  have Y4 := InsAt.new w4 43 0 (strOfNums [65, 98]) (strOfNums [102]) 48
  have e4 := (e3.trans (b4.mono e3.size)).alloc (e3.trans (b4.mono e3.size)).size (.cells #[.int .i64 43, .int .i64 0, .string (strOfNums [65, 98]), .string (strOfNums [102])] 48)
  clear X3 b4 e1 e3 hF g1
  go_wp2_with fail
  refine (oget_any none 0 0 [] _ (Has.none _) (by intro x hx; simp at hx) (by omega)).mono ?_
  rintro e w5 ⟨rfl, b5⟩
  rw [g2]
  simp only [resI, insV, failI]
  have X5 := (X4.later b5).alloc (.cells #[.int .i64 0, .int .i64 0, .string (strOfNums []), .string (strOfNums [])] 48)
  have Y5 := (Y4.later b5).alloc (.cells #[.int .i64 0, .int .i64 0, .string (strOfNums []), .string (strOfNums [])] 48)
  have e5 := (e4.trans (b5.mono e4.size)).alloc (e4.trans (b5.mono e4.size)).size (.cells #[.int .i64 0, .int .i64 0, .string (strOfNums []), .string (strOfNums [])] 48)
  clear X4 Y4 b5 e4 g2
  have h6 := Has.lit (w5.alloc (.cells #[.int .i64 0, .int .i64 0, .string (strOfNums []), .string (strOfNums [])] 48)) [0] (by decide)
  rw [show (w5.alloc (.cells #[.int .i64 0, .int .i64 0, .string (strOfNums []), .string (strOfNums [])] 48)).heap.size = w5.heap.size + 1 by simp] at h6
  have X6 := X5.alloc (.cells (cellsOf [0]).toArray 5)
  have Y6 := Y5.alloc (.cells (cellsOf [0]).toArray 5)
  have e6 := e5.alloc e5.size (.cells (cellsOf [0]).toArray 5)
  clear X5 Y5
  go_wp2_with fail
  refine (oget_any _ _ _ _ _ h6 (by intro x hx; simp at hx; omega) (by decide)).mono ?_
  rintro e w6 ⟨rfl, b6⟩
  rw [g3]
  simp only [resI, insV, failI]
  have X7 := (X6.later b6).alloc (.cells #[.int .i64 0, .int .i64 0, .string (strOfNums []), .string (strOfNums [])] 48)
  have Y7 := (Y6.later b6).alloc (.cells #[.int .i64 0, .int .i64 0, .string (strOfNums []), .string (strOfNums [])] 48)
  have e7 := (e6.trans (b6.mono e6.size)).alloc (e6.trans (b6.mono e6.size)).size (.cells #[.int .i64 0, .int .i64 0, .string (strOfNums []), .string (strOfNums [])] 48)
  clear X6 Y6 b6 e6 g3 h6 e5
  go_wp2_with (go_at_call 136; refine (kbegun_any _).mono ?_; rintro e w' ⟨rfl, rfl⟩; obtain ⟨x0, x1, x2, x3⟩ := X7)
  refine (omay_any 43 0 ⟨#[65, 98]⟩ ⟨#[102]⟩ _ (by decide) (by decide)).mono ?_
  rintro e w8 ⟨rfl, b8⟩
  rw [m1]
  have x0' := cellOn x0 b8
  have x1' := cellOn x1 b8
  have x2' := cellOn x2 b8
  have x3' := cellOn x3 b8
  have Y8 := Y7.later b8
  have e8 := e7.trans (b8.mono e7.size)
  clear x0 x1 x2 x3 Y7 e7 b8
  go_wp2_with fail
  refine (omay_any 43 0 ⟨#[]⟩ ⟨#[]⟩ _ (by decide) (by decide)).mono ?_
  rintro e w9 ⟨rfl, b9⟩
  rw [m2]
  have z0 := cellOn x0' b9
  have z1 := cellOn x1' b9
  have z2 := cellOn x2' b9
  have z3 := cellOn x3' b9
  obtain ⟨y0, y1, y2, y3⟩ := Y8.later b9
  have e9 := e8.trans (b9.mono e8.size)
  clear x0' x1' x2' x3' Y8 e8 b9
  have j1 : jumpsB 20 = true := rfl
  have j2 : jumpsB 37 = false := rfl
  have j3 : endsB 46 = true := rfl
  have j4 : endsB 8 = false := rfl
  go_wp2_with fail
  refine (ojumps_any 20 _).mono ?_
  rintro e w' ⟨rfl, rfl⟩
  rw [j1]
  go_wp2_with fail
  refine (ojumps_any 37 _).mono ?_
  rintro e w' ⟨rfl, rfl⟩
  rw [j2]
  go_wp2_with fail
  refine (oends_any 46 _).mono ?_
  rintro e w' ⟨rfl, rfl⟩
  rw [j3]
  go_wp2_with fail
  refine (oends_any 8 _).mono ?_
  rintro e w' ⟨rfl, rfl⟩
  rw [j4]
  go_wp2_with fail
  refine (eq_any 43 0 ⟨#[65, 98]⟩ ⟨#[102]⟩ 43 0 (strOfNums [65, 98]) (strOfNums [102]) _).mono ?_
  rintro e w10 ⟨rfl, b10⟩
  rw [q1]
  go_wp2_with fail
  go_ret
  exact ⟨rfl, e9.trans (b10.mono e9.size)⟩
end Op4
end Go.Proofs.YtjblmgdjaaeedaaGreat
