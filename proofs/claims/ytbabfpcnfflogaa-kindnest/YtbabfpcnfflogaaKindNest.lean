/- For every text and number the law KindNest answers true: at most two brackets stand ahead of a type, and what is left may be one; no condition on the input. -/
import Derived.Test.YtbabfpcnfflogaaRows
import Derived.Test.YtbabfpcnfflogaaKindBegun
import Derived.WalkKit
import Derived.ProofKit
import Derived.OpenShut
import Derived.ShutString
import Derived.ChangeOld
import Derived.Below
namespace Go.Proofs.Ytbabfpcnfflogaa
namespace KindNest
open Num Kind
open Go.ChangeShapes Go.WideShapes Go.ChangeAt Go.RowKit
open Go.ChangeMaps (open_string shut_string)
set_option linter.unusedVariables false

theorem nest_elem {l : List Int} {k : Nat} {r : List Int} (h : l = List.replicate (k + 1) 91 ++ r) : elemF l = if mayB l = true then (l.drop 1, true) else ([], false) := by
  unfold elemF
  have h0 : l.getD 0 0 = 91 := by rw [h, List.replicate_succ]; rfl
  by_cases hm : mayB l = true
  · rw [if_pos ⟨hm, h0⟩, if_pos hm]
  · rw [if_neg (fun e => hm e.1), if_neg hm]
theorem nest_three {l : List Int} {k : Nat} {r : List Int} (h : l = List.replicate (k + 3) 91 ++ r) : mayB l = false := by
  rw [h]
  exact may_three (List.replicate k 91 ++ r)

set_option maxRecDepth 100000 in
set_option maxHeartbeats 2000000 in
theorem walk (s : ByteArray) (n : Int) (w : World) (w0 : s.size ≤ maxLen) (w1 : (Lit.int .i64 n).wf = true) :
    Calls Try.prog 7 #[.string s, .int .i64 n] w fun e w' => e = .returned (.bool true) ∧ Below w.heap.size w w' := by
  have hn := bounds_i64 w1
  clear w1
  have hc := fun W => cut_any s W 9 9 rfl (by decide) w0
  have hz := cutS_size s 9
  have HC : Hid _ := hc
  clear hc
  generalize cutS s 9 = t at *
  by_cases h1 : n < 0
  · go_enter Try.func7, Try.ntmps7
    go_wp2_with fail
    refine (begun_any _).mono ?_
    rintro e w1 ⟨rfl, rfl⟩
    go_wp2_with fail
    refine (HC.out _).mono ?_
    rintro e w1 ⟨rfl, rfl⟩
    go_wp2_with fail
    go_ret
    exact ⟨rfl, Below.refl _ _⟩
  · by_cases h2 : 5 < n
    · go_enter Try.func7, Try.ntmps7
      go_wp2_with fail
      refine (begun_any _).mono ?_
      rintro e w1 ⟨rfl, rfl⟩
      go_wp2_with fail
      refine (HC.out _).mono ?_
      rintro e w1 ⟨rfl, rfl⟩
      go_wp2_with fail
      go_ret
      exact ⟨rfl, Below.refl _ _⟩
    · obtain ⟨N, rfl⟩ := Int.eq_ofNat_of_zero_le (show 0 ≤ n by omega)
      have hN : N ≤ 5 := by omega
      clear h1 h2 hn
      go_enter Try.func7, Try.ntmps7
      go_wp2_with fail
      refine (begun_any _).mono ?_
      rintro e w1 ⟨rfl, rfl⟩
      go_wp2_with fail
      refine (HC.out _).mono ?_
      rintro e w1 ⟨rfl, rfl⟩
      go_wp2_with fail
      go_loop [6, 7] (fun r i => ∃ (k : Nat) (R : ByteArray), k ≤ N ∧ i = .int .i64 k ∧ r = .string R ∧ R.size = k + t.size ∧ nums R = List.replicate k 91 ++ nums t) (fun _ i => N - (intOf i).toNat)
      case atStart => exact ⟨0, t, by omega, rfl, rfl, by omega, rfl⟩
      case round =>
        obtain ⟨k, R, hk, rfl, rfl, hR, hd⟩ := hrel
        have HD : Hid _ := hd
        have HR : Hid _ := hR
        have hR2 : R.size ≤ 14 := by omega
        clear hd hR
        by_cases hlt : k < N
        · have hb := nums_bracket R
          have hbs : (⟨#[91]⟩ ++ R : ByteArray).size = 1 + R.size := ByteArray.size_append
          have H1 : Hid (nums (⟨#[91]⟩ ++ R) = List.replicate (k + 1) 91 ++ nums t) := by show _ = _; rw [hb, HD.out, List.replicate_succ]; rfl
          have H2 : Hid ((⟨#[91]⟩ ++ R : ByteArray).size = k + 1 + t.size) := by show _ = _; rw [hbs, HR.out]; omega
          clear hb hbs
          go_wp2_with fail
          go_round
          case rel => exact ⟨k + 1, _, by omega, by go_num, rfl, H2.out, H1.out⟩
          case measure => simp [intOf]; omega
        · have hkm : N = k := by omega
          subst hkm
          have hT : R.size ≤ maxLen := by unfold maxLen; omega
          by_cases h0 : N = 0
          · have hnb : ((N : Int) == 0) = true := beq_iff_eq.2 (by omega)
            have hn3 : (N : Int) < 3 := by omega
            clear hlt h0
            go_wp2_with fail
            refine (kelem_any _ _ hT).mono ?_
            rintro e w2 ⟨rfl, rfl⟩
            simp only [resE]
            go_wp2_with (first | (go_at_call 16; refine (kmay_any _ _ hT).mono ?_; rintro e w' ⟨rfl, rfl⟩) | (go_at_call 17; refine (may_any _ _ hT).mono ?_; rintro e w' ⟨rfl, rfl⟩) | (go_at_call 20; refine (kref_any _ _ hT).mono ?_; rintro e w' ⟨rfl, rfl⟩) | (go_at_call 21; refine (ref_any _ _ hT).mono ?_; rintro e w' ⟨rfl, rfl⟩))
            go_ret
            exact ⟨rfl, Below.refl _ _⟩
          · have hnb : ((N : Int) == 0) = false := beq_eq_false_iff_ne.2 (by omega)
            have hel := nest_elem (l := nums R) (k := N - 1) (by rw [show N - 1 + 1 = N by omega]; exact HD.out)
            cases hm : mayB (nums R)
            · have HE : Hid (elemF (nums R) = ([], false)) := by show _ = _; rw [hel, hm]; rfl
              clear hlt hel h0
              by_cases hn3 : N < 3
              · go_wp2_with fail
                refine (kelem_any _ _ hT).mono ?_
                rintro e w2 ⟨rfl, rfl⟩
                rw [HE.out]
                simp only [resE]
                go_wp2_with (first | (go_at_call 16; refine (kmay_any _ _ hT).mono ?_; rintro e w' ⟨rfl, rfl⟩) | (go_at_call 17; refine (may_any _ _ hT).mono ?_; rintro e w' ⟨rfl, rfl⟩) | (go_at_call 20; refine (kref_any _ _ hT).mono ?_; rintro e w' ⟨rfl, rfl⟩) | (go_at_call 21; refine (ref_any _ _ hT).mono ?_; rintro e w' ⟨rfl, rfl⟩))
                go_ret
                exact ⟨rfl, Below.refl _ _⟩
              · go_wp2_with fail
                refine (kelem_any _ _ hT).mono ?_
                rintro e w2 ⟨rfl, rfl⟩
                rw [HE.out]
                simp only [resE]
                go_wp2_with (first | (go_at_call 16; refine (kmay_any _ _ hT).mono ?_; rintro e w' ⟨rfl, rfl⟩) | (go_at_call 17; refine (may_any _ _ hT).mono ?_; rintro e w' ⟨rfl, rfl⟩) | (go_at_call 20; refine (kref_any _ _ hT).mono ?_; rintro e w' ⟨rfl, rfl⟩) | (go_at_call 21; refine (ref_any _ _ hT).mono ?_; rintro e w' ⟨rfl, rfl⟩))
                go_ret
                exact ⟨rfl, Below.refl _ _⟩
            · have hn3 : N < 3 := by
                rcases Nat.lt_or_ge N 3 with h | h
                · exact h
                · have := nest_three (l := nums R) (k := N - 3) (by rw [show N - 3 + 3 = N by omega]; exact HD.out)
                  rw [hm] at this
                  cases this
              have HE : Hid (elemF (nums R) = ((nums R).drop 1, true)) := by show _ = _; rw [hel, hm]; rfl
              have hpos : 1 ≤ R.size := by rw [HR.out]; omega
              have hts : ((strOfNums (nums R).tail).toList == (R.extract 1 R.size).toList) = true := by rw [← List.drop_one, ← tail_str]; simp
              clear hlt hel h0
              go_wp2_with fail
              refine (kelem_any _ _ hT).mono ?_
              rintro e w2 ⟨rfl, rfl⟩
              rw [HE.out]
              simp only [resE]
              go_wp2_with (first | (go_at_call 16; refine (kmay_any _ _ hT).mono ?_; rintro e w' ⟨rfl, rfl⟩) | (go_at_call 17; refine (may_any _ _ hT).mono ?_; rintro e w' ⟨rfl, rfl⟩) | (go_at_call 20; refine (kref_any _ _ hT).mono ?_; rintro e w' ⟨rfl, rfl⟩) | (go_at_call 21; refine (ref_any _ _ hT).mono ?_; rintro e w' ⟨rfl, rfl⟩))
              go_ret
              exact ⟨rfl, Below.refl _ _⟩

/-! ### The row -/
theorem own : ownKnob Try.prog.godebug = none := by kernel_rfl
theorem laidOut : laidOutB Try.prog = true := by kernel_rfl
set_option maxRecDepth 100000 in
theorem lifted (os : Os) (started : os.Started) (H : Type) (enc : TypeId × Value → H) :
    ReturnsInHanded {} Try.checked os 7 .any (Rows.kindNestSpec.pre6 enc Try.prog Try.f7 Rows.kindNestRow.domain false) (Rows.kindNestSpec.post enc Try.prog Try.f7 false true false false) := by
  refine returnsInHanded_of_change (C := Try.checked) own started (by kernel_rfl) Try.func7
    (ChangeSpec.witness6 (enc := enc) (C := Try.checked) false ⟨#[], #[.string ByteArray.empty, .int .i64 0], []⟩ 8 (by kernel_rfl) (by kernel_rfl) (by kernel_rfl) (by kernel_rfl)) ?_
  intro W base args ds gs before hval0 hW hcnd _
  have hval : ∀ (j : Nat) t v, Try.f7.params[j]? = some t → args[j]? = some v → Value.okWide Try.prog W .any base t v := hval0
  have hW' := hW
  obtain ⟨p, q, hA0, hV, rfl, hfz, hnd⟩ := hW
  have hA : DataW.TrodAll enc Try.prog W 0 (fun _ => true) true Try.f7.params.toList args.toList ds p := hA0
  rw [Try.params7] at hA hval
  obtain ⟨v0, vs0, d0, ds0, p0, q0, hargs, rfl, rfl, h0, r0⟩ := trodAll_cons hA
  obtain ⟨v1, vs1, d1, ds1, p1, q1, rfl, rfl, rfl, h1, r1⟩ := trodAll_cons r0
  obtain ⟨rfl, rfl, rfl⟩ := trodAll_nil r1
  obtain rfl : args = #[v0, v1] := by cases args; simp_all
  obtain ⟨rfl, rfl⟩ := trodVars_none hV
  obtain ⟨a0, rfl, rfl, rfl, w0⟩ := open_string Try.underlying9 (hval 0 9 v0 rfl rfl) h0
  obtain ⟨a1, rfl, rfl, rfl, w1⟩ := open_int Try.underlying3 (hval 1 3 v1 rfl rfl) h1
  clear hA0 hval0
  refine (walk a0 a1 W w0 w1).mono fun e W' ⟨he, bel⟩ => ?_
  subst he
  exact ⟨_, rfl, _, _, _, [], _, [], hW', trodAll_mk1 (shut_bool Try.underlying4 _), (trodAll_cons_mk (shut_string Try.underlying9 w0) (trodAll_cons_mk (shut_int Try.underlying3 w1) trodAll_mk0)), rfl, bel.frame _, fun h => by cases h⟩

theorem over : Rows.kindNestRow.holds Try.pinned (OpenSpec.ofChange Rows.kindNestSpec) :=
  OpenClaim.holds_of_wide 7 Try.f7 rfl rfl rfl rfl rfl rfl rfl ⟨rfl, rfl, rfl, rfl, rfl⟩ rfl rfl rfl rfl rfl (by kernel_rfl) Try.func7 (by kernel_rfl)
    (of_decide_eq_true (by kernel_rfl)) (by unfold Func.isWrapper; first | (rw [if_pos (by decide +kernel)]; kernel_rfl) | (rw [if_neg (by decide +kernel)]; exact ⟨rfl, rfl⟩))
    (fun os started H enc _ => lifted os started H enc)

end KindNest

theorem kindNest_holds : Rows.KindNestSaid := KindNest.over
#print axioms kindNest_holds
end Go.Proofs.Ytbabfpcnfflogaa
