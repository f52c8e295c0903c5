/- For all objects and roots the law CopyTwice answers true: what was copied, copied again, is as it was; no condition on the input. -/
import Derived.Test.YtogohjnpgdiddaaRows
import Derived.Test.YtogohjnpgdiddaaCollLaid
import Derived.Test.YtogohjnpgdiddaaCollMirror
import Derived.Test.YtogohjnpgdiddaaCollEq
import Derived.WalkKit
import Derived.ProofKit
import Derived.OpenShut
import Derived.ShutString
import Derived.ChangeOld
import Derived.Below
namespace Go.Proofs.Ytogohjnpgdiddaa
namespace CopyTwice
open Mem Heap Coll
open Go.ChangeShapes Go.WideShapes Go.ChangeAt Go.RowKit
open Go.ChangeMaps (open_string shut_string)
set_option linter.unusedVariables false
set_option linter.unusedSimpArgs false
set_option maxRecDepth 100000

theorem cut_sl {B : Nat} {w : World} {v : Value} {L : List Nv} (h : Cut B w v (cutN L)) : ∃ a c, v = .slice a (cutN L).length c ∧ Sl obE 2 w v ((cutN L).map toV) := by
  obtain ⟨P, hP, hPN⟩ := h
  obtain ⟨o1, o2, o3⟩ := cut_ok L
  have hmem : ∀ p ∈ P, p.1 ∈ cutN L := fun p hp => by rw [← hPN]; exact List.mem_map_of_mem hp
  have hl := cut_len L
  have hs := hP.sl (fun p hp => by have := o2 _ (hmem p hp); omega) (fun p hp x hx => by have := o1.w _ (hmem p hp) x hx; omega)
  have e : P.map (fun p => toV p.1) = (cutN L).map toV := by rw [← hPN, List.map_map]; rfl
  rw [e] at hs
  obtain ⟨a, c, rfl⟩ := own_sl hP.row
  have hlen : P.length = (cutN L).length := by rw [← hPN, List.length_map]
  rw [hlen] at hs ⊢
  exact ⟨a, c, rfl, hs⟩
set_option maxHeartbeats 4000000 in
theorem walk (a : Option Addr) (len cap : Nat) (L : List Nv) (root : Int) (w : World) (h1 : Sl obE 2 w (.slice a len cap) L) (h2 : (Lit.int .i64 root).wf = true) : Calls Try.prog 4 #[.slice a len cap, .int .i64 root] w fun e w' => e = .returned (.bool true) ∧ Below w.heap.size w w' := by
  have hroot := bounds_i64 h2
  clear h2
  have HL : Hid (Sl obE 2 w (.slice a len cap) L) := h1
  clear h1
  obtain ⟨o1, o2, o3⟩ := cut_ok L
  have hcl := cut_len L
  have hn20 : (cutN L).length ≤ 20 := by omega
  clear hcl
  go_enter Try.func4, Try.ntmps4
  go_wp2_with fail
  refine (Coll.begun_any _).mono ?_
  rintro e w1 ⟨rfl, b1⟩
  go_wp2_with fail
  refine (cut_any w1 _ L (Sl.later obE_stable HL.out b1)).mono ?_
  rintro e w2 ⟨v2, rfl, hcut, b2⟩
  obtain ⟨a2, c2, rfl, hsl⟩ := cut_sl hcut
  have b12 := b1.trans (b2.mono b1.size)
  have HS : Hid (Sl obE 2 w2 (.slice a2 (cutN L).length c2) ((cutN L).map toV)) := hsl
  clear hcut hsl b2 HL
  generalize cutN L = N at *
  by_cases hN0 : N.length = 0
  · have d1 : decide ((N.length : Int) = 0) = true := by rw [decide_eq_true_eq]; omega
    have d2 : decide (N.length = 0) = true := by rw [decide_eq_true_eq]; omega
    have d3 : ((N.length : Int) == 0) = true := by rw [beq_iff_eq]; omega
    go_wp2_with fail
    go_ret
    exact ⟨rfl, b12⟩
  have d1 : decide ((N.length : Int) = 0) = false := by rw [decide_eq_false_iff_not]; omega
  have d2 : decide (N.length = 0) = false := by rw [decide_eq_false_iff_not]; omega
  have d3 : ((N.length : Int) == 0) = false := by rw [beq_eq_false_iff_ne]; omega
  have HLD := laid_any w2 a2 N.length c2 N o1 o2 o3 hn20 HS.out
  go_wp2_with fail
  refine HLD.mono ?_
  rintro e w3 ⟨q, S, va, rfl, H3, own3, _, b3⟩
  have b13 := b12.trans (b3.mono b12.size)
  obtain ⟨g, gc, rfl, _, _, gc1, gc2⟩ := own_some own3 (by omega)
  obtain ⟨f1, f2, f3, f4, f5⟩ := mod_facts root N.length (by omega) (by omega) hroot
  have y0 := own_cell own3 (modN root N.length) (.int .i64 (plN N (modN root N.length) : Int)) (by rw [List.getElem?_map, places_at' N _ _ f4]; rfl)
  have hh0 : hasO (laidO refsB N) (plN N (modN root N.length) : Int) = true := by
    rw [← pl_laid refsB N]
    exact pl_has _ _ (by rw [laid_len]; exact f4)
  obtain ⟨T, hT⟩ : ∃ T, (live refsB (laidO refsB N) [(plN N (modN root N.length) : Int)]).map (turnO refsB (laidO refsB N) (live refsB (laidO refsB N) [(plN N (modN root N.length) : Int)])) = T := ⟨_, rfl⟩
  obtain ⟨t1, t2, t3⟩ := twice refsB (laidO refsB N) (plN N (modN root N.length)) hh0 T hT
  have HT : Hid _ := hT
  have HT1 : Hid ([(plN N (modN root N.length) : Int)].map (placeR (laidO refsB N) (live refsB (laidO refsB N) [(plN N (modN root N.length) : Int)])) = [0]) := by
    show _ = _
    simp only [List.map_cons, List.map_nil, t1]
  have HT2 : Hid _ := t2
  have HT3 : Hid ([0].map (placeR T (live refsB T [0])) = [0]) := by
    show _ = _
    simp only [List.map_cons, List.map_nil, t3]
  have H3h : Hid _ := H3
  have F1 : Hid _ := f1
  clear f1 f2 f3 f5 hh0 hT t1 t2 t3 H3 own3 HLD
  generalize modN root N.length = m at *
  generalize plN N m = P at *
  have f1 := F1.out
  have d4 : decide ((m : Int) < (N.length : Int)) = true := by simp; omega
  have d5 : decide (m < N.length) = true := by simp; omega
  have d6 : ¬ ((N.length : Int) = 0) := by omega
  go_wp2_with fail
  refine (copy_lit refsB _ rf_refs _ _ _ _ _ _ T [(P : Int)] [0] H3h.out (by simp) (by simp) HT.out HT1.out).mono ?_
  rintro e w4 ⟨q4, S4, g4, cap4, rfl, H4, own4, _, b4⟩
  have b14 := b13.trans (b4.mono b13.size)
  have hrd := reads_of own4
  have HC := copy_any refsB _ rf_refs _ _ _ _ _ _ _ _ _ _ H4 hrd (by simp)
  rw [HT2.out, HT3.out] at HC
  have z4 := own_cell own4 0 (.int .i64 0) (by rfl)
  have H4h : Hid _ := H4
  clear H4 own4 hrd f1 d1 d2 d3 d4 d5 d6 y0
  go_wp2_with fail
  refine HC.mono ?_
  rintro e w5 ⟨q5, S5, v5, rfl, H5, own5, _, b5⟩
  obtain ⟨g5, cap5, rfl, _, _, _, _⟩ := own_some own5 (by simp)
  have z5 := own_cell own5 0 (.int .i64 0) (by rfl)
  have y4 := cellOn z4 b5
  have b15 := b14.trans (b5.mono b14.size)
  have H45 : Hid _ := H4h.out.later b5
  have HW1 := words_any _ _ _ _ _ _ _ H5.raw
  clear own5 HC z4
  go_wp2_with fail
  refine HW1.mono ?_
  rintro e w6 ⟨v6, rfl, own6, b6⟩
  obtain ⟨a6, c6, rfl⟩ := own_sl own6
  have b16 := b15.trans (b6.mono b15.size)
  have HW2 := words_any _ _ _ _ _ _ _ (H45.out.later b6).raw
  go_wp2_with fail
  refine HW2.mono ?_
  rintro e w7 ⟨v7, rfl, own7, b7⟩
  obtain ⟨a7, c7, rfl⟩ := own_sl own7
  have b17 := b16.trans (b7.mono b16.size)
  have r6 := reads_of (own_later own6 b7)
  have r7 := reads_of own7
  go_wp2_with fail
  refine (eq_same _ _ _ _ _ _ _ r6 r7).mono ?_
  rintro e w8 ⟨rfl, b8⟩
  go_wp2_with fail
  go_ret
  exact ⟨rfl, b17.trans (b8.mono b17.size)⟩

/-! ### The row -/
theorem own : ownKnob Try.prog.godebug = none := by kernel_rfl
theorem laidOut : laidOutB Try.prog = true := by kernel_rfl
set_option maxRecDepth 100000 in
theorem lifted (os : Os) (started : os.Started) (H : Type) (enc : TypeId × Value → H) :
    ReturnsInHanded {} Try.checked os 4 .any (Rows.copyTwiceSpec.pre6 enc Try.prog Try.f4 Rows.copyTwiceRow.domain false) (Rows.copyTwiceSpec.post enc Try.prog Try.f4 false true false false) := by
  refine returnsInHanded_of_change (C := Try.checked) own started (by kernel_rfl) Try.func4
    (ChangeSpec.witness6 (enc := enc) (C := Try.checked) false ⟨#[], #[.slice none 0 0, .int .i64 0], []⟩ 8 (by kernel_rfl) (by kernel_rfl) (by kernel_rfl) (by kernel_rfl)) ?_
  intro W base args ds gs before hval0 hW hcnd _
  have hval : ∀ (j : Nat) t v, Try.f4.params[j]? = some t → args[j]? = some v → Value.okWide Try.prog W .any base t v := hval0
  have hW' := hW
  obtain ⟨p, q, hA0, hV, rfl, hfz, hnd⟩ := hW
  have hA : DataW.TrodAll enc Try.prog W 0 (fun _ => true) true Try.f4.params.toList args.toList ds p := hA0
  rw [Try.params4] at hA hval
  obtain ⟨v0, vs0, d0, ds0, p0, q0, hargs, rfl, rfl, h0, r0⟩ := trodAll_cons hA
  obtain ⟨v1, vs1, d1, ds1, p1, q1, rfl, rfl, rfl, h1, r1⟩ := trodAll_cons r0
  obtain ⟨rfl, rfl, rfl⟩ := trodAll_nil r1
  obtain rfl : args = #[v0, v1] := by cases args; simp_all
  obtain ⟨rfl, rfl⟩ := trodVars_none hV
  obtain ⟨a0, len0, cap0, rfl⟩ := okWide_slice Try.underlying22 (hval 0 22 v0 rfl rfl)
  have k0 := h0
  have lt0 : ∀ x ∈ p0, x.block < W.heap.size := by obtain ⟨m, hm⟩ := k0; exact DataW.trod_lt m _ _ _ hm
  obtain ⟨z0, w0⟩ : ∃ L, Sl obE 2 W (.slice a0 len0 cap0) L := by
    obtain ⟨fuel, hf⟩ := h0
    obtain ⟨v, L, e, hL⟩ := open_obs hf
    simp [Value.cells] at e
    subst e
    exact ⟨L, hL⟩
  obtain ⟨a1, rfl, rfl, rfl, w1⟩ := open_int Try.underlying3 (hval 1 3 v1 rfl rfl) h1
  clear hA0 hval0
  refine (walk a0 len0 cap0 z0 a1 W w0 w1).mono fun e W' ⟨he, bel⟩ => ?_
  subst he
  exact ⟨_, rfl, _, _, _, [], _, [], hW', trodAll_mk1 (shut_bool Try.underlying4 _), (trodAll_cons_mk (Below.trod laidOut (by kernel_rfl) (of_decide_eq_true (by kernel_rfl)) k0 bel lt0) (trodAll_cons_mk (shut_int Try.underlying3 w1) trodAll_mk0)), rfl, bel.frame _, fun h => by cases h⟩

theorem over : Rows.copyTwiceRow.holds Try.pinned (OpenSpec.ofChange Rows.copyTwiceSpec) :=
  OpenClaim.holds_of_wide 4 Try.f4 rfl rfl rfl rfl rfl rfl rfl ⟨rfl, rfl, rfl, rfl, rfl⟩ rfl rfl rfl rfl rfl (by kernel_rfl) Try.func4 (by kernel_rfl)
    (of_decide_eq_true (by kernel_rfl)) (by unfold Func.isWrapper; first | (rw [if_pos (by decide +kernel)]; kernel_rfl) | (rw [if_neg (by decide +kernel)]; exact ⟨rfl, rfl⟩))
    (fun os started H enc _ => lifted os started H enc)

end CopyTwice

theorem copyTwice_holds : Rows.CopyTwiceSaid := CopyTwice.over
#print axioms copyTwice_holds
end Go.Proofs.Ytogohjnpgdiddaa
