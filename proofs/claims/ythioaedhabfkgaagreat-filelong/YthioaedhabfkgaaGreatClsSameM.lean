/- The contracts of class's test whether two methods are the same. -/
import Derived.Test.YthioaedhabfkgaaGreatClsSame
namespace Go.Proofs.YthioaedhabfkgaaGreat
namespace Cls
open Num Kind Op4
open Go.RowKit
set_option linter.unusedVariables false
set_option maxRecDepth 100000

def headEq (x y : MethL) : Bool := (x.name.toList == y.name.toList) && (eqL seq x.params y.params && ((x.ret.toList == y.ret.toList) && ((x.static == y.static) && (x.abstract == y.abstract))))
def bodyEq (x y : MethL) : Bool := (x.locals == y.locals) && ((x.stack == y.stack) && (eqL ieq x.code y.code && (eqL meq x.maps y.maps && eqL teq x.traps y.traps)))
def methEq (x y : MethL) : Bool := headEq x y && bodyEq x y
theorem MethCells.two (w : World) (nm1 : ByteArray) (v11 : Value) (rt1 : ByteArray) (st1 ab1 : Bool) (lo1 sk1 : Int) (v71 v81 v91 : Value) (nm2 : ByteArray) (v12 : Value) (rt2 : ByteArray) (st2 ab2 : Bool) (lo2 sk2 : Int) (v72 v82 v92 : Value) (t : Nat) : MethCells ((w.alloc (.cells #[.string nm1, v11, .string rt1, .bool st1, .bool ab1, .int .i64 lo1, .int .i64 sk1, v71, v81, v91] t)).alloc (.cells #[.string nm2, v12, .string rt2, .bool st2, .bool ab2, .int .i64 lo2, .int .i64 sk2, v72, v82, v92] t)) w.heap.size nm1 v11 rt1 st1 ab1 lo1 sk1 v71 v81 v91 ∧ MethCells ((w.alloc (.cells #[.string nm1, v11, .string rt1, .bool st1, .bool ab1, .int .i64 lo1, .int .i64 sk1, v71, v81, v91] t)).alloc (.cells #[.string nm2, v12, .string rt2, .bool st2, .bool ab2, .int .i64 lo2, .int .i64 sk2, v72, v82, v92] t)) (w.heap.size + 1) nm2 v12 rt2 st2 ab2 lo2 sk2 v72 v82 v92 := by
  refine ⟨(MethCells.new w nm1 v11 rt1 st1 ab1 lo1 sk1 v71 v81 v91 t).later ((Below.refl _ _).alloc (Nat.le_refl _) _), ?_⟩
  have h := MethCells.new (w.alloc (.cells #[.string nm1, v11, .string rt1, .bool st1, .bool ab1, .int .i64 lo1, .int .i64 sk1, v71, v81, v91] t)) nm2 v12 rt2 st2 ab2 lo2 sk2 v72 v82 v92 t
  rw [alloc_size] at h
  exact h
set_option maxHeartbeats 4000000 in
theorem head_any (nm1 : ByteArray) (v11 : Value) (rt1 : ByteArray) (st1 ab1 : Bool) (lo1 sk1 : Int) (v71 v81 v91 : Value) (ps1 : List ByteArray) (cd1 : List InsL) (mp1 : List MapL) (tr1 : List TrapL) (nm2 : ByteArray) (v12 : Value) (rt2 : ByteArray) (st2 ab2 : Bool) (lo2 sk2 : Int) (v72 v82 v92 : Value) (ps2 : List ByteArray) (cd2 : List InsL) (mp2 : List MapL) (tr2 : List TrapL) (w : World) (h1 : MethV w v11 v71 v81 v91 ⟨nm1, ps1, rt1, st1, ab1, lo1, sk1, cd1, mp1, tr1⟩) (h2 : MethV w v12 v72 v82 v92 ⟨nm2, ps2, rt2, st2, ab2, lo2, sk2, cd2, mp2, tr2⟩) :
    Calls Tryz.prog 140 #[.agg #[.string nm1, v11, .string rt1, .bool st1, .bool ab1, .int .i64 lo1, .int .i64 sk1, v71, v81, v91], .agg #[.string nm2, v12, .string rt2, .bool st2, .bool ab2, .int .i64 lo2, .int .i64 sk2, v72, v82, v92]] w fun e w' => e = .returned (.bool (headEq ⟨nm1, ps1, rt1, st1, ab1, lo1, sk1, cd1, mp1, tr1⟩ ⟨nm2, ps2, rt2, st2, ab2, lo2, sk2, cd2, mp2, tr2⟩)) ∧ Below w.heap.size w w' := by
  have b00 := (Below.refl w.heap.size w).alloc (Nat.le_refl _) (.cells #[.string nm1, v11, .string rt1, .bool st1, .bool ab1, .int .i64 lo1, .int .i64 sk1, v71, v81, v91] 46)
  have b0 := b00.alloc b00.size (.cells #[.string nm2, v12, .string rt2, .bool st2, .bool ab2, .int .i64 lo2, .int .i64 sk2, v72, v82, v92] 46)
  have M := MethCells.two w nm1 v11 rt1 st1 ab1 lo1 sk1 v71 v81 v91 nm2 v12 rt2 st2 ab2 lo2 sk2 v72 v82 v92 46
  have H1 := sequal_any v11 v12 ps1 ps2 _ (h1.params.later strE_stable b0) (h2.params.later strE_stable b0)
  unfold headEq
  simp only
  clear h1 h2
  generalize eqL seq ps1 ps2 = q1 at *
  cases hq : (nm1.toList == nm2.toList)
  · clear M H1
    go_enter Tryz.func140, Tryz.ntmps140
    go_wp2_with fail
    go_ret
    exact ⟨rfl, b0⟩
  cases q1
  · clear M
    go_enter Tryz.func140, Tryz.ntmps140
    go_wp2_with fail
    refine H1.mono ?_
    rintro e w2 ⟨rfl, b2⟩
    have k2 := b0.trans (b2.mono b0.size)
    go_wp2_with fail
    go_ret
    exact ⟨rfl, k2⟩
  cases hq2 : (rt1.toList == rt2.toList)
  · go_enter Tryz.func140, Tryz.ntmps140
    go_wp2_with fail
    refine H1.mono ?_
    rintro e w2 ⟨rfl, b2⟩
    have k2 := b0.trans (b2.mono b0.size)
    obtain ⟨x0, x1, x2, x3, x4, x5, x6, x7, x8, x9⟩ := M.1.later b2
    obtain ⟨y0, y1, y2, y3, y4, y5, y6, y7, y8, y9⟩ := M.2.later b2
    go_wp2_with fail
    go_ret
    exact ⟨rfl, k2⟩
  cases hq3 : (st1 == st2)
  · go_enter Tryz.func140, Tryz.ntmps140
    go_wp2_with fail
    refine H1.mono ?_
    rintro e w2 ⟨rfl, b2⟩
    have k2 := b0.trans (b2.mono b0.size)
    obtain ⟨x0, x1, x2, x3, x4, x5, x6, x7, x8, x9⟩ := M.1.later b2
    obtain ⟨y0, y1, y2, y3, y4, y5, y6, y7, y8, y9⟩ := M.2.later b2
    go_wp2_with fail
    go_ret
    exact ⟨rfl, k2⟩
  go_enter Tryz.func140, Tryz.ntmps140
  go_wp2_with fail
  refine H1.mono ?_
  rintro e w2 ⟨rfl, b2⟩
  have k2 := b0.trans (b2.mono b0.size)
  obtain ⟨x0, x1, x2, x3, x4, x5, x6, x7, x8, x9⟩ := M.1.later b2
  obtain ⟨y0, y1, y2, y3, y4, y5, y6, y7, y8, y9⟩ := M.2.later b2
  go_wp2_with fail
  go_ret
  exact ⟨rfl, k2⟩
set_option maxHeartbeats 4000000 in
theorem body2_any (nm1 : ByteArray) (v11 : Value) (rt1 : ByteArray) (st1 ab1 : Bool) (lo1 sk1 : Int) (v71 v81 v91 : Value) (ps1 : List ByteArray) (cd1 : List InsL) (mp1 : List MapL) (tr1 : List TrapL) (nm2 : ByteArray) (v12 : Value) (rt2 : ByteArray) (st2 ab2 : Bool) (lo2 sk2 : Int) (v72 v82 v92 : Value) (ps2 : List ByteArray) (cd2 : List InsL) (mp2 : List MapL) (tr2 : List TrapL) (w : World) (h1 : MethV w v11 v71 v81 v91 ⟨nm1, ps1, rt1, st1, ab1, lo1, sk1, cd1, mp1, tr1⟩) (h2 : MethV w v12 v72 v82 v92 ⟨nm2, ps2, rt2, st2, ab2, lo2, sk2, cd2, mp2, tr2⟩) :
    Calls Tryz.prog 141 #[.agg #[.string nm1, v11, .string rt1, .bool st1, .bool ab1, .int .i64 lo1, .int .i64 sk1, v71, v81, v91], .agg #[.string nm2, v12, .string rt2, .bool st2, .bool ab2, .int .i64 lo2, .int .i64 sk2, v72, v82, v92]] w fun e w' => e = .returned (.bool (bodyEq ⟨nm1, ps1, rt1, st1, ab1, lo1, sk1, cd1, mp1, tr1⟩ ⟨nm2, ps2, rt2, st2, ab2, lo2, sk2, cd2, mp2, tr2⟩)) ∧ Below w.heap.size w w' := by
  have b00 := (Below.refl w.heap.size w).alloc (Nat.le_refl _) (.cells #[.string nm1, v11, .string rt1, .bool st1, .bool ab1, .int .i64 lo1, .int .i64 sk1, v71, v81, v91] 46)
  have b0 := b00.alloc b00.size (.cells #[.string nm2, v12, .string rt2, .bool st2, .bool ab2, .int .i64 lo2, .int .i64 sk2, v72, v82, v92] 46)
  have M := MethCells.two w nm1 v11 rt1 st1 ab1 lo1 sk1 v71 v81 v91 nm2 v12 rt2 st2 ab2 lo2 sk2 v72 v82 v92 46
  have H1 := iequal_any v71 v72 cd1 cd2 _ (h1.code.later insE_stable b0) (h2.code.later insE_stable b0)
  have H2 : Hid (∀ W, Below w.heap.size w W → _) := fun W hb => mapsEq_any v81 v82 mp1 mp2 W (h1.maps.later mapE_stable hb) (h2.maps.later mapE_stable hb)
  have H3 : Hid (∀ W, Below w.heap.size w W → _) := fun W hb => tequal_any v91 v92 tr1 tr2 W (h1.traps.later trapE_stable hb) (h2.traps.later trapE_stable hb)
  unfold bodyEq
  simp only
  clear h1 h2
  generalize eqL ieq cd1 cd2 = q1 at *
  generalize eqL meq mp1 mp2 = q2 at *
  generalize eqL teq tr1 tr2 = q3 at *
  cases hq : (lo1 == lo2)
  · clear M H1 H2 H3
    go_enter Tryz.func141, Tryz.ntmps141
    go_wp2_with fail
    go_ret
    exact ⟨rfl, b0⟩
  cases hq2 : (sk1 == sk2)
  · clear M H1 H2 H3
    go_enter Tryz.func141, Tryz.ntmps141
    go_wp2_with fail
    go_ret
    exact ⟨rfl, b0⟩
  cases q1
  · clear M H2 H3
    go_enter Tryz.func141, Tryz.ntmps141
    go_wp2_with fail
    refine H1.mono ?_
    rintro e w2 ⟨rfl, b2⟩
    have k2 := b0.trans (b2.mono b0.size)
    go_wp2_with fail
    go_ret
    exact ⟨rfl, k2⟩
  cases q2
  · clear H3
    go_enter Tryz.func141, Tryz.ntmps141
    go_wp2_with fail
    refine H1.mono ?_
    rintro e w2 ⟨rfl, b2⟩
    have k2 := b0.trans (b2.mono b0.size)
    have m2 := M.1.later b2
    have n2 := M.2.later b2
    have m2h : Hid _ := m2
    have n2h : Hid _ := n2
    obtain ⟨x0, x1, x2, x3, x4, x5, x6, x7, x8, x9⟩ := m2
    obtain ⟨y0, y1, y2, y3, y4, y5, y6, y7, y8, y9⟩ := n2
    go_wp2_with fail
    refine (H2.out _ k2).mono ?_
    rintro e w3 ⟨rfl, b3⟩
    have k3 := k2.trans (b3.mono k2.size)
    go_wp2_with fail
    go_ret
    exact ⟨rfl, k3⟩
  go_enter Tryz.func141, Tryz.ntmps141
  go_wp2_with fail
  refine H1.mono ?_
  rintro e w2 ⟨rfl, b2⟩
  have k2 := b0.trans (b2.mono b0.size)
  have m2 := M.1.later b2
  have n2 := M.2.later b2
  have m2h : Hid _ := m2
  have n2h : Hid _ := n2
  obtain ⟨x0, x1, x2, x3, x4, x5, x6, x7, x8, x9⟩ := m2
  obtain ⟨y0, y1, y2, y3, y4, y5, y6, y7, y8, y9⟩ := n2
  go_wp2_with fail
  refine (H2.out _ k2).mono ?_
  rintro e w3 ⟨rfl, b3⟩
  have k3 := k2.trans (b3.mono k2.size)
  clear x0 x1 x2 x3 x4 x5 x6 x7 x8 x9 y0 y1 y2 y3 y4 y5 y6 y7 y8 y9
  obtain ⟨x0, x1, x2, x3, x4, x5, x6, x7, x8, x9⟩ := MethCells.later m2h.out b3
  obtain ⟨y0, y1, y2, y3, y4, y5, y6, y7, y8, y9⟩ := MethCells.later n2h.out b3
  go_wp2_with fail
  refine (H3.out _ k3).mono ?_
  rintro e w4 ⟨rfl, b4⟩
  have k4 := k3.trans (b4.mono k3.size)
  go_wp2_with fail
  go_ret
  exact ⟨rfl, k4⟩
set_option maxHeartbeats 4000000 in
theorem smeth_any (nm1 : ByteArray) (v11 : Value) (rt1 : ByteArray) (st1 ab1 : Bool) (lo1 sk1 : Int) (v71 v81 v91 : Value) (ps1 : List ByteArray) (cd1 : List InsL) (mp1 : List MapL) (tr1 : List TrapL) (nm2 : ByteArray) (v12 : Value) (rt2 : ByteArray) (st2 ab2 : Bool) (lo2 sk2 : Int) (v72 v82 v92 : Value) (ps2 : List ByteArray) (cd2 : List InsL) (mp2 : List MapL) (tr2 : List TrapL) (w : World) (h1 : MethV w v11 v71 v81 v91 ⟨nm1, ps1, rt1, st1, ab1, lo1, sk1, cd1, mp1, tr1⟩) (h2 : MethV w v12 v72 v82 v92 ⟨nm2, ps2, rt2, st2, ab2, lo2, sk2, cd2, mp2, tr2⟩) :
    Calls Tryz.prog 105 #[.agg #[.string nm1, v11, .string rt1, .bool st1, .bool ab1, .int .i64 lo1, .int .i64 sk1, v71, v81, v91], .agg #[.string nm2, v12, .string rt2, .bool st2, .bool ab2, .int .i64 lo2, .int .i64 sk2, v72, v82, v92]] w fun e w' => e = .returned (.bool (methEq ⟨nm1, ps1, rt1, st1, ab1, lo1, sk1, cd1, mp1, tr1⟩ ⟨nm2, ps2, rt2, st2, ab2, lo2, sk2, cd2, mp2, tr2⟩)) ∧ Below w.heap.size w w' := by
  have b00 := (Below.refl w.heap.size w).alloc (Nat.le_refl _) (.cells #[.string nm1, v11, .string rt1, .bool st1, .bool ab1, .int .i64 lo1, .int .i64 sk1, v71, v81, v91] 46)
  have b0 := b00.alloc b00.size (.cells #[.string nm2, v12, .string rt2, .bool st2, .bool ab2, .int .i64 lo2, .int .i64 sk2, v72, v82, v92] 46)
  have M := MethCells.two w nm1 v11 rt1 st1 ab1 lo1 sk1 v71 v81 v91 nm2 v12 rt2 st2 ab2 lo2 sk2 v72 v82 v92 46
  have H1 := head_any nm1 v11 rt1 st1 ab1 lo1 sk1 v71 v81 v91 ps1 cd1 mp1 tr1 nm2 v12 rt2 st2 ab2 lo2 sk2 v72 v82 v92 ps2 cd2 mp2 tr2 _ (h1.later b0) (h2.later b0)
  have H2 : Hid (∀ W, Below w.heap.size w W → _) := fun W hb => body2_any nm1 v11 rt1 st1 ab1 lo1 sk1 v71 v81 v91 ps1 cd1 mp1 tr1 nm2 v12 rt2 st2 ab2 lo2 sk2 v72 v82 v92 ps2 cd2 mp2 tr2 W (h1.later hb) (h2.later hb)
  unfold methEq
  clear h1 h2
  generalize headEq ⟨nm1, ps1, rt1, st1, ab1, lo1, sk1, cd1, mp1, tr1⟩ ⟨nm2, ps2, rt2, st2, ab2, lo2, sk2, cd2, mp2, tr2⟩ = q1 at *
  generalize bodyEq ⟨nm1, ps1, rt1, st1, ab1, lo1, sk1, cd1, mp1, tr1⟩ ⟨nm2, ps2, rt2, st2, ab2, lo2, sk2, cd2, mp2, tr2⟩ = q2 at *
  cases q1
  · clear M H2
    go_enter Tryz.func105, Tryz.ntmps105
    go_wp2_with fail
    refine H1.mono ?_
    rintro e w2 ⟨rfl, b2⟩
    have k2 := b0.trans (b2.mono b0.size)
    go_wp2_with fail
    go_ret
    exact ⟨rfl, k2⟩
  go_enter Tryz.func105, Tryz.ntmps105
  go_wp2_with fail
  refine H1.mono ?_
  rintro e w2 ⟨rfl, b2⟩
  have k2 := b0.trans (b2.mono b0.size)
  obtain ⟨x0, x1, x2, x3, x4, x5, x6, x7, x8, x9⟩ := M.1.later b2
  obtain ⟨y0, y1, y2, y3, y4, y5, y6, y7, y8, y9⟩ := M.2.later b2
  go_wp2_with fail
  refine (H2.out _ k2).mono ?_
  rintro e w3 ⟨rfl, b3⟩
  have k3 := k2.trans (b3.mono k2.size)
  go_wp2_with fail
  go_ret
  exact ⟨rfl, k3⟩
end Cls
end Go.Proofs.YthioaedhabfkgaaGreat
