/- For every number the law CopyShared answers true: what several name is copied once; no condition on the input. -/
import Derived.Test.YtogohjnpgdiddaaRows
import Derived.Test.YtogohjnpgdiddaaCollPut
import Derived.Test.YtogohjnpgdiddaaCollShare
import Derived.WalkKit
import Derived.ProofKit
import Derived.OpenShut
import Derived.ShutString
import Derived.ChangeOld
import Derived.Below
namespace Go.Proofs.Ytogohjnpgdiddaa
namespace CopyShared
open Mem Heap Coll
open Go.ChangeShapes Go.WideShapes Go.ChangeAt Go.RowKit
open Go.ChangeMaps (open_string shut_string)
set_option linter.unusedVariables false
set_option linter.unusedSimpArgs false
set_option maxRecDepth 100000

theorem sh_make (C j : Nat) (h : 3 * j + 10 ≤ C) : makeB C (shO j) 2 1 = true ∧ makeA C (shO j) 2 1 = ((3 * j + 7 : Nat) : Int) ∧ makeS C (shO j) 2 1 = shO j ++ [⟨2, [0]⟩] := by
  have hm := make_fit (n := C) (ts := shO j) (o := ⟨2, [0]⟩) ⟨by decide, by decide, fun x hx => by simp at hx; subst hx; exact ⟨by omega, by omega⟩⟩ (by rw [shO_words]; simp; omega)
  exact ⟨hm.1, hm.2.1.trans (by rw [shO_words]), hm.2.2⟩
theorem sh_put (j : Nat) : holdsO (shO j ++ [⟨2, [0]⟩]) ((3 * j + 7 : Nat) : Int) 0 = true ∧ putS (shO j ++ [⟨2, [0]⟩]) ((3 * j + 7 : Nat) : Int) 0 1 = shO (j + 1) := by
  have h := put_pre (shO j) ⟨2, [0]⟩ [] 0 1 (by simp)
  rw [shO_words] at h
  refine ⟨h.1, h.2.trans ?_⟩
  unfold shO
  rw [List.replicate_succ', List.cons_append]
  rfl
set_option maxHeartbeats 4000000 in
theorem walk (n : Int) (w : World) (h1 : (Lit.int .i64 n).wf = true) : Calls Try.prog 8 #[.int .i64 n] w fun e w' => e = .returned (.bool true) ∧ Below w.heap.size w w' := by
  have hn := bounds_i64 h1
  clear h1
  cases d1 : decide (n < 1)
  case true =>
    go_enter Try.func8, Try.ntmps8
    go_wp2_with fail
    refine (Coll.begun_any _).mono ?_
    rintro e w1 ⟨rfl, b1⟩
    go_wp2_with fail
    go_ret
    exact ⟨rfl, b1⟩
  cases d2 : decide (50 < n)
  case true =>
    go_enter Try.func8, Try.ntmps8
    go_wp2_with fail
    refine (Coll.begun_any _).mono ?_
    rintro e w1 ⟨rfl, b1⟩
    go_wp2_with fail
    go_ret
    exact ⟨rfl, b1⟩
  have g1 := of_decide_eq_false d1
  have g2 := of_decide_eq_false d2
  obtain ⟨n, rfl⟩ := Int.eq_ofNat_of_zero_le (show 0 ≤ n by omega)
  have n1 : 1 ≤ n := by omega
  have n2 : n ≤ 50 := by omega
  obtain ⟨iN, hiN, hzN0, hzN1, hzN2⟩ := info_parts infoN
  have hN := fun w => new_any ((n : Int) * 3 + 7) w (by omega)
  have hC : clampN ((n : Int) * 3 + 7) = 3 * n + 7 := by unfold clampN; omega
  rw [hC] at hN
  clear hC
  have HN : Hid (∀ w, Calls Try.prog 26 #[.int .i64 ((n : Int) * 3 + 7)] w fun e w' => e = .returned (.pointer (some ⟨w.heap.size, 0, none⟩)) ∧ Hp w.heap.size w' (fun k => k = w.heap.size) w.heap.size (3 * n + 7) [] ∧ Below w.heap.size w w') := hN
  clear hN
  have M0 : Hid (makeB (3 * n + 7) [] 1 5 = true ∧ makeA (3 * n + 7) [] 1 5 = 0 ∧ makeS (3 * n + 7) [] 1 5 = shO 0) := by
    have hm := make_fit (n := 3 * n + 7) (ts := []) (o := ⟨1, [0, 0, 0, 0, 0]⟩) ⟨by decide, by decide, fun x hx => by simp at hx; subst hx; exact ⟨by omega, by omega⟩⟩ (by simp [wordsO])
    exact ⟨hm.1, hm.2.1, hm.2.2⟩
  go_enter Try.func8, Try.ntmps8
  go_wp2_with fail
  refine (Coll.begun_any _).mono ?_
  rintro e w1 ⟨rfl, b1⟩
  go_wp2_with fail
  refine (HN.out w1).mono ?_
  rintro e w2 ⟨rfl, H2, b2⟩
  have b12 := b1.trans (b2.mono b1.size)
  have H2 : Hid _ := H2
  go_wp2_with fail
  refine (make_ok _ _ _ _ _ _ (shO 0) 1 5 0 H2.out M0.out.1 M0.out.2.1 M0.out.2.2).mono ?_
  rintro e w3 ⟨rfl, S3, H3, k3⟩
  have b13 := b12.trans (k3.mono b1.size)
  have H3 : Hid _ := H3
  clear H2 M0 HN
  go_upto_region 10 with fail
  go_loopw [7, 8] (fun ro i wr => ∃ (j : Nat) (S : Nat → Prop), i = .int .i64 j ∧ j ≤ n ∧ Hid (Hp w1.heap.size wr S w1.heap.size (3 * n + 7) (shO j)) ∧ Hid (wr.ownsRow w.heap.size 3 1 ro j (((List.range j).map fun i => ((7 + 3 * i : Nat) : Int)).map (Value.int .i64))) ∧ Hid (∀ k, ro.ownBlock = some k → ¬ S k) ∧ Below w.heap.size w wr) (fun _ i _ => n - (intOf i).toNat)
  case atStart => exact ⟨0, _, rfl, by omega, H3, World.ownsRow_nil _ _ _ _, (fun k e => by cases e), b13⟩
  case round =>
    clear H3
    obtain ⟨j, S, rfl, hj, HH, HRO, HSE, bw⟩ := hrel
    by_cases hlj : j < n
    · have d5 : decide ((j : Int) < (n : Int)) = true := by simp; omega
      have d6 : decide (j < n) = true := by simp; omega
      obtain ⟨m1, m2, m3⟩ := sh_make (3 * n + 7) j (by omega)
      have eA : ((3 * j + 7 : Nat) : Int) = 3 * (j : Int) + 7 := by omega
      have HM : Hid (Calls Try.prog 27 #[.pointer (some ⟨w1.heap.size, 0, none⟩), .int .i64 2, .int .i64 1] wr fun e w' => e = .returned (.tuple #[.int .i64 (3 * (j : Int) + 7), .bool true]) ∧ ∃ S', Hp w1.heap.size w' S' w1.heap.size (3 * n + 7) (shO j ++ [⟨2, [0]⟩]) ∧ Off S wr w' ∧ ∀ k, S' k → S k ∨ wr.heap.size ≤ k) := by
        have := make_any _ _ _ _ _ _ 2 1 HH.out
        rw [m1, m2, m3, eA] at this
        exact this
      have HPP : Hid (∀ wx S', Hp w1.heap.size wx S' w1.heap.size (3 * n + 7) (shO j ++ [⟨2, [0]⟩]) → Calls Try.prog 25 #[.pointer (some ⟨w1.heap.size, 0, none⟩), .int .i64 (3 * (j : Int) + 7), .int .i64 0, .int .i32 1] wx fun e w' => e = .returned (.bool true) ∧ Hp w1.heap.size w' S' w1.heap.size (3 * n + 7) (shO (j + 1)) ∧ Off S' wx w') := fun wx S' h => by
        have := put_any _ _ _ _ _ _ (3 * (j : Int) + 7) 0 1 h ⟨by omega, by omega⟩
        have hp := sh_put j
        rw [eA] at hp
        rw [hp.1, hp.2] at this
        exact this.mono fun e w' h => ⟨h.1, h.2.1, h.2.2.1⟩
      clear m1 m2 m3 eA
      have HJ : Hid (j < n) := hlj
      clear hlj
      go_wp2_with fail
      refine HM.out.mono ?_
      rintro e w4 ⟨rfl, S4, H4, o4, l4⟩
      have H4 : Hid _ := H4
      go_wp2_with fail
      refine (HPP.out _ _ H4.out).mono ?_
      rintro e w5 ⟨rfl, H5, o5⟩
      have o45 : Off S wr w5 := o4.trans o5 l4
      have R5 := own_off (show World.ownsRow _ _ _ _ _ _ _ from HRO.out) o45 HSE.out
      have HSE5 : Hid (∀ k, (u7 : Value).ownBlock = some k → ¬ S4 k) := fun k e e' => by
        rcases l4 k e' with h | h
        · exact HSE.out k e h
        · have := (World.ownsRow.lt HRO.out k e).2; omega
      have bw5 := bw.trans (o45.to (B := w.heap.size) (fun k e => Nat.le_trans b1.size (HH.out.raw.low k e).1) bw.size)
      obtain ⟨sa, sc, rfl⟩ := own_sl R5
      have ka := alloc1 w5 (.cells #[.int .i64 (3 * (j : Int) + 7)] 3)
      have R6 : Hid _ := own_later R5 ka
      have HNW : Hid _ := news_one w5 (.int .i64 (3 * (j : Int) + 7)) 3
      have kk := bw5.trans (ka.mono bw5.size)
      have hB := kk.size
      have HONE : Hid (∀ u ∈ ([.int .i64 (3 * (j : Int) + 7)] : List Value), u.oneCell' = true) := by intro u hu; rw [List.mem_singleton.1 hu]; rfl
      have H6 : Hid _ := H5.later ka
      have HLT : Hid (∀ kx, S4 kx → kx < w5.heap.size) := fun kx e => (H5.raw.low kx e).2
      clear H5 o4 o5 o45 R5 HRO HSE HH HM HPP H4 l4
      go_wp2_with (at_builtin; refine wpList_append_lies _ rfl (.tmp 53) (.tmp 55) 23 rfl w.heap.size 3 iN (.int .i64 0) 1 8 Try.underlying23 hiN hzN0 hzN1 hzN2 rfl (by decide) (.slice sa j sc) j (((List.range j).map fun i => ((7 + 3 * i : Nat) : Int)).map (Value.int .i64)) rfl R6.out ⟨w5.heap.size, 0, none⟩ 1 1 [.int .i64 (3 * (j : Int) + 7)] rfl rfl HNW.out HONE.out (by decide) (by unfold maxLen; omega) (by omega) hB _ rfl ?_; intro g' cap' w7 own7 g7 hat7 hlt7; have H7 : Hid _ := (show Hp _ _ _ _ _ _ from H6.out).off (Off.grown (S := fun kx => (Value.slice sa j sc).ownBlock = some kx) g7 (fun kx e => e)) (fun kx e e' => HSE5.out kx e' e))
      have kk7 := kk.grown g7 hB (fun kx e => (World.ownsRow.lt R6.out kx e).1)
      go_roundw
      case rel =>
        refine ⟨j + 1, S4, by go_num, HJ.out, H7, ?_, ?_, kk7⟩
        · show World.ownsRow _ _ _ _ _ _ _
          rw [List.range_succ, List.map_append, List.map_append]
          have e1 : ((7 + 3 * j : Nat) : Int) = 3 * (j : Int) + 7 := by omega
          simp only [List.map_cons, List.map_nil, e1]
          exact own7
        · intro kx e h
          have e' : g' = kx := by simpa [Value.ownBlock] using e
          subst e'
          rcases hat7 with h7 | h7
          · exact HSE5.out _ h7 h
          · have := HLT.out _ h
            rw [alloc_size] at h7
            omega
      case measure => have := HJ.out; simp [intOf]; omega
    · have ej : j = n := by omega
      subst ej
      obtain ⟨s1, s2⟩ := sh_all j n1
      obtain ⟨f1, f2, f3, f4⟩ := shC_facts j
      have ef : ((3 * j : Nat) : Int) = 3 * (j : Int) := by omega
      rw [ef] at f2 f3
      obtain ⟨ra, rc, rfl⟩ := own_sl HRO.out
      have hRd := reads_of HRO.out
      have HC := copy_any refsB _ rf_refs _ _ _ _ _ _ _ _ _ _ HH.out hRd (by omega)
      rw [s1, s2] at HC
      have HCh : Hid (Calls Try.prog 13 #[.pointer (some ⟨w1.heap.size, 0, none⟩), .func (.func 14) #[] #[], .slice ra j rc] wr fun e w' => ∃ q S v, e = .returned (.tuple #[.pointer (some ⟨q, 0, none⟩), v]) ∧ Hp wr.heap.size w' S q (3 * j + 7) (shC j) ∧ w'.ownsRow wr.heap.size 3 1 v j (((List.range j).map fun i => ((3 * i : Nat) : Int)).map (Value.int .i64)) ∧ (∀ k, v.ownBlock = some k → ¬ S k) ∧ Below wr.heap.size wr w') := HC
      have d5 : decide ((j : Int) < (j : Int)) = false := by simp
      have d6 : decide (j < j) = false := by simp
      clear HC hRd s1 s2
      go_wp2_with fail
      refine HCh.out.mono ?_
      rintro e w6 ⟨q, SQ, v, rfl, H6, own6, _, b6⟩
      have bw6 := bw.trans (b6.mono bw.size)
      obtain ⟨g, cap, rfl, _, _, hc1, hc2⟩ := own_some own6 (by omega)
      have HU := used_any _ _ _ _ _ _ _ H6.raw
      rw [f1, show ((3 * j + 7 : Nat) : Int) = (j : Int) * 3 + 7 by omega] at HU
      have HHS := has_any _ _ _ _ _ _ (3 * (j : Int)) H6
      rw [f2] at HHS
      have HLN := len_any _ _ _ _ _ _ (3 * (j : Int)) H6
      rw [f3] at HLN
      have O6 : Hid _ := own6
      have H6h : Hid _ := H6
      have F4 : Hid _ := f4
      clear own6 H6 f1 f2 f3 f4 d5 d6 HCh HRO
      go_wp2_with fail
      refine HU.mono ?_
      rintro e w' ⟨rfl, rfl⟩
      go_wp2_with fail
      refine HHS.mono ?_
      rintro e w' ⟨rfl, rfl⟩
      go_wp2_with fail
      refine HLN.mono ?_
      rintro e w' ⟨rfl, rfl⟩
      clear HU HHS HLN
      go_wp2_with fail
      go_loopw [13] (fun i wz => ∃ (t : Nat), i = .int .i64 t ∧ t ≤ j ∧ Hid (Below w6.heap.size w6 wz)) (fun i _ => j - (intOf i).toNat)
      case atStart => exact ⟨0, rfl, by omega, Below.refl _ _⟩
      case round =>
        obtain ⟨t, rfl, ht, hbz⟩ := hrel
        by_cases hlt : t < j
        · have d5 : decide ((t : Int) < (j : Int)) = true := by simp; omega
          have d6 : decide (t < j) = true := by simp; omega
          have z0 := own_cell (own_later (show World.ownsRow _ _ _ _ _ _ _ from O6.out) hbz.out) t (.int .i64 (3 * (t : Int))) (by
            rw [List.getElem?_map, List.getElem?_map, List.getElem?_range hlt]
            simp)
          have HG := get_any _ _ _ _ _ _ ((3 * t : Nat) : Int) 0 (H6h.out.later hbz.out)
          rw [F4.out t hlt, show ((3 * t : Nat) : Int) = 3 * (t : Int) by omega, show ((3 * j + 1 : Nat) : Int) = 3 * (j : Int) + 1 by omega] at HG
          have HJ : Hid (t < j) := hlt
          clear hlt
          go_wp2_with fail
          refine HG.mono ?_
          rintro e w' ⟨rfl, rfl⟩
          go_wp2_with fail
          go_roundw
          case rel =>
            first
            | exact ⟨t + 1, by go_num, HJ.out, hbz⟩
            | ((repeat apply Exists.intro); exact ⟨⟨t + 1, by go_num, HJ.out, hbz⟩, rfl⟩)
          case measure => have := HJ.out; simp [intOf]; omega
        · have et : t = j := by omega
          subst et
          have d5 : decide ((t : Int) < (t : Int)) = false := by simp
          have d6 : decide (t < t) = false := by simp
          go_wp2_with fail
          go_ret
          exact ⟨rfl, bw6.trans (hbz.out.mono bw6.size)⟩

/-! ### The row -/
theorem own : ownKnob Try.prog.godebug = none := by kernel_rfl
theorem laidOut : laidOutB Try.prog = true := by kernel_rfl
set_option maxRecDepth 100000 in
theorem lifted (os : Os) (started : os.Started) (H : Type) (enc : TypeId × Value → H) :
    ReturnsInHanded {} Try.checked os 8 .any (Rows.copySharedSpec.pre6 enc Try.prog Try.f8 Rows.copySharedRow.domain false) (Rows.copySharedSpec.post enc Try.prog Try.f8 false true false false) := by
  refine returnsInHanded_of_change (C := Try.checked) own started (by kernel_rfl) Try.func8
    (ChangeSpec.witness6 (enc := enc) (C := Try.checked) false ⟨#[], #[.int .i64 0], []⟩ 8 (by kernel_rfl) (by kernel_rfl) (by kernel_rfl) (by kernel_rfl)) ?_
  intro W base args ds gs before hval0 hW hcnd _
  have hval : ∀ (j : Nat) t v, Try.f8.params[j]? = some t → args[j]? = some v → Value.okWide Try.prog W .any base t v := hval0
  have hW' := hW
  obtain ⟨p, q, hA0, hV, rfl, hfz, hnd⟩ := hW
  have hA : DataW.TrodAll enc Try.prog W 0 (fun _ => true) true Try.f8.params.toList args.toList ds p := hA0
  rw [Try.params8] at hA hval
  obtain ⟨v0, vs0, d0, ds0, p0, q0, hargs, rfl, rfl, h0, r0⟩ := trodAll_cons hA
  obtain ⟨rfl, rfl, rfl⟩ := trodAll_nil r0
  obtain rfl : args = #[v0] := by cases args; simp_all
  obtain ⟨rfl, rfl⟩ := trodVars_none hV
  obtain ⟨a0, rfl, rfl, rfl, w0⟩ := open_int Try.underlying3 (hval 0 3 v0 rfl rfl) h0
  clear hA0 hval0
  refine (walk a0 W w0).mono fun e W' ⟨he, bel⟩ => ?_
  subst he
  exact ⟨_, rfl, _, _, _, [], _, [], hW', trodAll_mk1 (shut_bool Try.underlying4 _), (trodAll_cons_mk (shut_int Try.underlying3 w0) trodAll_mk0), rfl, bel.frame _, fun h => by cases h⟩

theorem over : Rows.copySharedRow.holds Try.pinned (OpenSpec.ofChange Rows.copySharedSpec) :=
  OpenClaim.holds_of_wide 8 Try.f8 rfl rfl rfl rfl rfl rfl rfl ⟨rfl, rfl, rfl, rfl, rfl⟩ rfl rfl rfl rfl rfl (by kernel_rfl) Try.func8 (by kernel_rfl)
    (of_decide_eq_true (by kernel_rfl)) (by unfold Func.isWrapper; first | (rw [if_pos (by decide +kernel)]; kernel_rfl) | (rw [if_neg (by decide +kernel)]; exact ⟨rfl, rfl⟩))
    (fun os started H enc _ => lifted os started H enc)

end CopyShared

theorem copyShared_holds : Rows.CopySharedSaid := CopyShared.over
#print axioms copyShared_holds
end Go.Proofs.Ytogohjnpgdiddaa
