/- For every number and either case the law KindLong answers true: a name has up to eight bytes, and not one more; no condition on the input. -/
import Derived.Test.YtbabfpcnfflogaaRows
import Derived.Test.YtbabfpcnfflogaaKindBegun
import Derived.WalkKit
import Derived.ProofKit
import Derived.OpenShut
import Derived.ShutString
import Derived.ChangeOld
import Derived.Below
namespace Go.Proofs.Ytbabfpcnfflogaa
namespace KindLong
open Num Kind
open Go.ChangeShapes Go.WideShapes Go.ChangeAt Go.RowKit
open Go.ChangeMaps (open_string shut_string)
set_option linter.unusedVariables false

def sign (g : Bool) (i : Nat) : Int := if i = 0 ∧ g = true then 65 else 97 + ((i % 26 : Nat) : Int)
def longL (g : Bool) (k : Nat) : List Int := (List.range k).map (sign g)
theorem longL_snoc (g : Bool) (k : Nat) : longL g (k + 1) = longL g k ++ [sign g k] := by simp [longL, List.range_succ]
theorem long_class : ∀ g : Bool, ∀ N, N < 21 → classB (longL g N) = (g && (decide (2 ≤ N) && decide (N ≤ 8))) := by decide +kernel
theorem long_name : ∀ g : Bool, ∀ N, N < 21 → nameB (longL g N) = (!g && (decide (1 ≤ N) && decide (N ≤ 8))) := by decide +kernel
theorem nums_snoc (R : ByteArray) (c : Int) (h0 : 0 ≤ c) (h1 : c ≤ 255) : nums (R ++ strOfNums [c]) = nums R ++ [c] := by
  unfold nums
  rw [ByteArray.data_append]
  simp [strOfNums]
  omega

set_option maxRecDepth 100000 in
set_option maxHeartbeats 2000000 in
theorem walk (n : Int) (g : Bool) (w : World) (w0 : (Lit.int .i64 n).wf = true) :
    Calls Try.prog 6 #[.int .i64 n, .bool g] w fun e w' => e = .returned (.bool true) ∧ Below w.heap.size w w' := by
  have hn := bounds_i64 w0
  clear w0
  by_cases h1 : n < 0
  · go_enter Try.func6, Try.ntmps6
    go_wp2_with fail
    refine (begun_any _).mono ?_
    rintro e w1 ⟨rfl, rfl⟩
    go_wp2_with fail
    go_ret
    exact ⟨rfl, Below.refl _ _⟩
  · by_cases h2 : 20 < n
    · go_enter Try.func6, Try.ntmps6
      go_wp2_with fail
      refine (begun_any _).mono ?_
      rintro e w1 ⟨rfl, rfl⟩
      go_wp2_with fail
      go_ret
      exact ⟨rfl, Below.refl _ _⟩
    · obtain ⟨N, rfl⟩ := Int.eq_ofNat_of_zero_le (show 0 ≤ n by omega)
      have hN : N ≤ 20 := by omega
      clear h1 h2 hn
      go_enter Try.func6, Try.ntmps6
      go_wp2_with fail
      refine (begun_any _).mono ?_
      rintro e w1 ⟨rfl, rfl⟩
      go_wp2_with fail
      go_loopw [6, 7, 8] (fun r i _ wr => ∃ (k : Nat) (R : ByteArray), k ≤ N ∧ i = .int .i64 k ∧ r = .string R ∧ R.size = k ∧ nums R = longL g k ∧ Below w.heap.size w wr) (fun _ i _ _ => N - (intOf i).toNat)
      case atStart => exact ⟨0, ⟨#[]⟩, by omega, rfl, rfl, rfl, rfl, Below.refl _ _⟩
      case round =>
        obtain ⟨k, R, hk, rfl, rfl, hR, hd, hbel⟩ := hrel
        have HD : Hid _ := hd
        have HR : Hid _ := hR
        have hR2 : R.size ≤ 20 := by omega
        clear hd hR
        by_cases hlt : k < N
        · have hsn := longL_snoc g k
          have hcb : 0 ≤ sign g k ∧ sign g k ≤ 255 := by unfold sign; split <;> omega
          have H1 : Hid (nums (R ++ strOfNums [sign g k]) = longL g (k + 1)) := by show _ = _; rw [nums_snoc R _ hcb.1 hcb.2, hsn, HD.out]
          have H2 : Hid ((R ++ strOfNums [sign g k]).size = k + 1) := by show _ = _; rw [ByteArray.size_append, strOfNums_size, HR.out]; rfl
          have hst := (Has.lit wr [sign g k] (by simp [maxLen])).str
          change Sem.run Try.prog (convert 28 9 (.slice (some ⟨wr.heap.size, 0, none⟩) 1 1)) (wr.alloc (.cells #[.int .u8 (sign g k)] 5)) = .ok (.string (strOfNums [sign g k])) (wr.alloc (.cells #[.int .u8 (sign g k)] 5)) at hst
          have hb2 := hbel.alloc hbel.size (.cells #[.int .u8 (sign g k)] 5)
          have hsz : ¬ 9223372036854775807 < R.size + (strOfNums [sign g k]).size := by rw [strOfNums_size]; simp; omega
          by_cases hk0 : k = 0
          · subst hk0
            cases g
            · have hsg : sign false 0 = 97 := rfl
              rw [hsg] at hst hb2 H1 H2 hsz
              clear hsn hcb hsg
              go_wp2_with fail
              go_roundw
              case rel => exact ⟨0 + 1, _, by omega, by go_num, rfl, H2.out, H1.out, hb2⟩
              case measure => simp [intOf]; omega
            · have hsg : sign true 0 = 65 := rfl
              rw [hsg] at hst hb2 H1 H2 hsz
              clear hsn hcb hsg
              go_wp2_with fail
              go_roundw
              case rel => exact ⟨0 + 1, _, by omega, by go_num, rfl, H2.out, H1.out, hb2⟩
              case measure => simp [intOf]; omega
          · have hsg : sign g k = 97 + ((k % 26 : Nat) : Int) := by unfold sign; rw [if_neg (fun h => hk0 h.1)]
            have hkk : ((k : Int) % 26) = ((k % 26 : Nat) : Int) := by omega
            have hk26 : k % 26 < 26 := Nat.mod_lt _ (by decide)
            have hkb : ((k : Int) == 0) = false := beq_eq_false_iff_ne.2 (by omega)
            rw [hsg] at hst hb2 H1 H2 hsz
            clear hsn hcb hsg hk0
            generalize k % 26 = q at *
            go_wp2_with fail
            go_roundw
            case rel => exact ⟨k + 1, _, by omega, by go_num, rfl, H2.out, H1.out, hb2⟩
            case measure => simp [intOf]; omega
        · have hkm : N = k := by omega
          subst hkm
          have hT : R.size ≤ maxLen := by unfold maxLen; omega
          have hcl := long_class g N (by omega)
          have hna := long_name g N (by omega)
          rw [← HD.out] at hcl hna
          clear hlt
          have h4 : N ≤ 0 ∨ (1 ≤ N ∧ N ≤ 1) ∨ (2 ≤ N ∧ N ≤ 8) ∨ 9 ≤ N := by omega
          cases g
          · rcases h4 with h | h | h | h
            · have HC : Hid (classB (nums R) = false) := by show _ = _; rw [hcl]; simp; try omega
              have HN : Hid (nameB (nums R) = false) := by show _ = _; rw [hna]; simp; try omega
              clear hcl hna
              go_wp2_with fail
              refine (kclass_any _ _ hT).mono ?_
              rintro e w2 ⟨rfl, rfl⟩
              rw [HC.out]
              go_wp2_with fail
              refine (kname_any _ _ hT).mono ?_
              rintro e w2 ⟨rfl, rfl⟩
              rw [HN.out]
              go_wp2_with fail
              go_ret
              first | exact ⟨rfl, hbel⟩ | exact ⟨ret_bool (by simp; omega), hbel⟩
            · have HC : Hid (classB (nums R) = false) := by show _ = _; rw [hcl]; simp; try omega
              have HN : Hid (nameB (nums R) = true) := by show _ = _; rw [hna]; simp; try omega
              clear hcl hna
              go_wp2_with fail
              refine (kclass_any _ _ hT).mono ?_
              rintro e w2 ⟨rfl, rfl⟩
              rw [HC.out]
              go_wp2_with fail
              refine (kname_any _ _ hT).mono ?_
              rintro e w2 ⟨rfl, rfl⟩
              rw [HN.out]
              go_wp2_with fail
              go_ret
              first | exact ⟨rfl, hbel⟩ | exact ⟨ret_bool (by simp; omega), hbel⟩
            · have HC : Hid (classB (nums R) = false) := by show _ = _; rw [hcl]; simp; try omega
              have HN : Hid (nameB (nums R) = true) := by show _ = _; rw [hna]; simp; try omega
              clear hcl hna
              go_wp2_with fail
              refine (kclass_any _ _ hT).mono ?_
              rintro e w2 ⟨rfl, rfl⟩
              rw [HC.out]
              go_wp2_with fail
              refine (kname_any _ _ hT).mono ?_
              rintro e w2 ⟨rfl, rfl⟩
              rw [HN.out]
              go_wp2_with fail
              go_ret
              first | exact ⟨rfl, hbel⟩ | exact ⟨ret_bool (by simp; omega), hbel⟩
            · have HC : Hid (classB (nums R) = false) := by show _ = _; rw [hcl]; simp; try omega
              have HN : Hid (nameB (nums R) = false) := by show _ = _; rw [hna]; simp; try omega
              clear hcl hna
              go_wp2_with fail
              refine (kclass_any _ _ hT).mono ?_
              rintro e w2 ⟨rfl, rfl⟩
              rw [HC.out]
              go_wp2_with fail
              refine (kname_any _ _ hT).mono ?_
              rintro e w2 ⟨rfl, rfl⟩
              rw [HN.out]
              go_wp2_with fail
              go_ret
              first | exact ⟨rfl, hbel⟩ | exact ⟨ret_bool (by simp; omega), hbel⟩
          · rcases h4 with h | h | h | h
            · have HC : Hid (classB (nums R) = false) := by show _ = _; rw [hcl]; simp; try omega
              have HN : Hid (nameB (nums R) = false) := by show _ = _; rw [hna]; simp; try omega
              clear hcl hna
              go_wp2_with fail
              refine (kclass_any _ _ hT).mono ?_
              rintro e w2 ⟨rfl, rfl⟩
              rw [HC.out]
              go_wp2_with fail
              refine (kname_any _ _ hT).mono ?_
              rintro e w2 ⟨rfl, rfl⟩
              rw [HN.out]
              go_wp2_with fail
              go_ret
              first | exact ⟨rfl, hbel⟩ | exact ⟨ret_bool (by simp; omega), hbel⟩
            · have HC : Hid (classB (nums R) = false) := by show _ = _; rw [hcl]; simp; try omega
              have HN : Hid (nameB (nums R) = false) := by show _ = _; rw [hna]; simp; try omega
              clear hcl hna
              go_wp2_with fail
              refine (kclass_any _ _ hT).mono ?_
              rintro e w2 ⟨rfl, rfl⟩
              rw [HC.out]
              go_wp2_with fail
              refine (kname_any _ _ hT).mono ?_
              rintro e w2 ⟨rfl, rfl⟩
              rw [HN.out]
              go_wp2_with fail
              go_ret
              first | exact ⟨rfl, hbel⟩ | exact ⟨ret_bool (by simp; omega), hbel⟩
            · have HC : Hid (classB (nums R) = true) := by show _ = _; rw [hcl]; simp; try omega
              have HN : Hid (nameB (nums R) = false) := by show _ = _; rw [hna]; simp; try omega
              clear hcl hna
              go_wp2_with fail
              refine (kclass_any _ _ hT).mono ?_
              rintro e w2 ⟨rfl, rfl⟩
              rw [HC.out]
              go_wp2_with fail
              refine (kname_any _ _ hT).mono ?_
              rintro e w2 ⟨rfl, rfl⟩
              rw [HN.out]
              go_wp2_with fail
              go_ret
              first | exact ⟨rfl, hbel⟩ | exact ⟨ret_bool (by simp; omega), hbel⟩
            · have HC : Hid (classB (nums R) = false) := by show _ = _; rw [hcl]; simp; try omega
              have HN : Hid (nameB (nums R) = false) := by show _ = _; rw [hna]; simp; try omega
              clear hcl hna
              go_wp2_with fail
              refine (kclass_any _ _ hT).mono ?_
              rintro e w2 ⟨rfl, rfl⟩
              rw [HC.out]
              go_wp2_with fail
              refine (kname_any _ _ hT).mono ?_
              rintro e w2 ⟨rfl, rfl⟩
              rw [HN.out]
              go_wp2_with fail
              go_ret
              first | exact ⟨rfl, hbel⟩ | exact ⟨ret_bool (by simp; omega), hbel⟩

/-! ### The row -/
theorem own : ownKnob Try.prog.godebug = none := by kernel_rfl
theorem laidOut : laidOutB Try.prog = true := by kernel_rfl
set_option maxRecDepth 100000 in
theorem lifted (os : Os) (started : os.Started) (H : Type) (enc : TypeId × Value → H) :
    ReturnsInHanded {} Try.checked os 6 .any (Rows.kindLongSpec.pre6 enc Try.prog Try.f6 Rows.kindLongRow.domain false) (Rows.kindLongSpec.post enc Try.prog Try.f6 false true false false) := by
  refine returnsInHanded_of_change (C := Try.checked) own started (by kernel_rfl) Try.func6
    (ChangeSpec.witness6 (enc := enc) (C := Try.checked) false ⟨#[], #[.int .i64 0, .bool false], []⟩ 8 (by kernel_rfl) (by kernel_rfl) (by kernel_rfl) (by kernel_rfl)) ?_
  intro W base args ds gs before hval0 hW hcnd _
  have hval : ∀ (j : Nat) t v, Try.f6.params[j]? = some t → args[j]? = some v → Value.okWide Try.prog W .any base t v := hval0
  have hW' := hW
  obtain ⟨p, q, hA0, hV, rfl, hfz, hnd⟩ := hW
  have hA : DataW.TrodAll enc Try.prog W 0 (fun _ => true) true Try.f6.params.toList args.toList ds p := hA0
  rw [Try.params6] at hA hval
  obtain ⟨v0, vs0, d0, ds0, p0, q0, hargs, rfl, rfl, h0, r0⟩ := trodAll_cons hA
  obtain ⟨v1, vs1, d1, ds1, p1, q1, rfl, rfl, rfl, h1, r1⟩ := trodAll_cons r0
  obtain ⟨rfl, rfl, rfl⟩ := trodAll_nil r1
  obtain rfl : args = #[v0, v1] := by cases args; simp_all
  obtain ⟨rfl, rfl⟩ := trodVars_none hV
  obtain ⟨a0, rfl, rfl, rfl, w0⟩ := open_int Try.underlying3 (hval 0 3 v0 rfl rfl) h0
  obtain ⟨a1, rfl, rfl, rfl⟩ := open_bool Try.underlying4 (hval 1 4 v1 rfl rfl) h1
  clear hA0 hval0
  refine (walk a0 a1 W w0).mono fun e W' ⟨he, bel⟩ => ?_
  subst he
  exact ⟨_, rfl, _, _, _, [], _, [], hW', trodAll_mk1 (shut_bool Try.underlying4 _), (trodAll_cons_mk (shut_int Try.underlying3 w0) (trodAll_cons_mk (shut_bool Try.underlying4 a1) trodAll_mk0)), rfl, bel.frame _, fun h => by cases h⟩

theorem over : Rows.kindLongRow.holds Try.pinned (OpenSpec.ofChange Rows.kindLongSpec) :=
  OpenClaim.holds_of_wide 6 Try.f6 rfl rfl rfl rfl rfl rfl rfl ⟨rfl, rfl, rfl, rfl, rfl⟩ rfl rfl rfl rfl rfl (by kernel_rfl) Try.func6 (by kernel_rfl)
    (of_decide_eq_true (by kernel_rfl)) (by unfold Func.isWrapper; first | (rw [if_pos (by decide +kernel)]; kernel_rfl) | (rw [if_neg (by decide +kernel)]; exact ⟨rfl, rfl⟩))
    (fun os started H enc _ => lifted os started H enc)

end KindLong

theorem kindLong_holds : Rows.KindLongSaid := KindLong.over
#print axioms kindLong_holds
end Go.Proofs.Ytbabfpcnfflogaa
