/- The contracts of op's small functions and of op.May: what speaks of the program. -/
import Derived.Test.YtjblmgdjaaeedaaGreatBaseOp
import Derived.Test.YtjblmgdjaaeedaaGreatBaseKind
import Derived.Handy
namespace Go.Proofs.YtjblmgdjaaeedaaGreat
namespace Op4
open Num Kind
open Go.RowKit
set_option linter.unusedVariables false
set_option maxRecDepth 100000

theorem ojumps_any (o : Int) (w : World) : Calls Tryz.prog 138 #[.int .i64 o] w fun e w' => e = .returned (.bool (jumpsB o)) ∧ w = w' := by
  by_cases h1 : 20 ≤ o
  · have e0 : jumpsB o = decide (o ≤ 36) := by unfold jumpsB; simp [h1]
    rw [e0]
    clear e0
    go_enter Tryz.func138, Tryz.ntmps138
    go_wp2_with fail
    go_ret
    exact ⟨rfl, rfl⟩
  · have e0 : jumpsB o = false := by unfold jumpsB; simp; omega
    rw [e0]
    clear e0
    go_enter Tryz.func138, Tryz.ntmps138
    go_wp2_with fail
    go_ret
    exact ⟨rfl, rfl⟩
theorem oends_any (o : Int) (w : World) : Calls Tryz.prog 139 #[.int .i64 o] w fun e w' => e = .returned (.bool (endsB o)) ∧ w = w' := by
  go_enter Tryz.func139, Tryz.ntmps139
  go_wp2_with fail
  all_goals
    go_ret
    refine ⟨ret_b ?_, rfl⟩
    go_light
    simp_all [endsB]
def opB (o : Int) : Bool := decide (1 ≤ o ∧ o ≤ 61)
theorem omayOp_any (o : Int) (w : World) : Calls Tryz.prog 151 #[.int .i64 o] w fun e w' => e = .returned (.bool (opB o)) ∧ w = w' := by
  by_cases h1 : 1 ≤ o
  · have e0 : opB o = decide (o ≤ 61) := by unfold opB; simp [h1]
    rw [e0]
    clear e0
    go_enter Tryz.func151, Tryz.ntmps151
    go_wp2_with fail
    go_ret
    exact ⟨rfl, rfl⟩
  · have e0 : opB o = false := by unfold opB; simp; omega
    rw [e0]
    clear e0
    go_enter Tryz.func151, Tryz.ntmps151
    go_wp2_with fail
    go_ret
    exact ⟨rfl, rfl⟩
theorem m_iff (o : Int) : (partsF o).2.2 = decide (38 ≤ o ∧ o ≤ 45) := by
  rcases kinds o with ⟨hk, hp⟩ | ⟨hk, hp⟩ | ⟨hk, hp⟩ | ⟨hk, hp⟩ | ⟨hk, hp⟩ <;> rw [hp] <;> simp <;> omega
theorem c1_iff (o : Int) : ((partsF o).2.1 == 1) = decide (37 ≤ o ∧ o ≤ 45) := by
  rcases kinds o with ⟨hk, hp⟩ | ⟨hk, hp⟩ | ⟨hk, hp⟩ | ⟨hk, hp⟩ | ⟨hk, hp⟩ <;> rw [hp] <;> simp <;> omega
theorem c2_iff (o : Int) : ((partsF o).2.1 == 2) = decide (o = 50 ∨ o = 56 ∨ o = 57) := by
  rcases kinds o with ⟨hk, hp⟩ | ⟨hk, hp⟩ | ⟨hk, hp⟩ | ⟨hk, hp⟩ | ⟨hk, hp⟩ <;> rw [hp] <;> simp <;> omega
theorem ohasM_any (o : Int) (w : World) : Calls Tryz.prog 157 #[.int .i64 o] w fun e w' => e = .returned (.bool (partsF o).2.2) ∧ w = w' := by
  rw [m_iff]
  by_cases h1 : 38 ≤ o <;> by_cases h2 : o ≤ 41 <;> by_cases h3 : 42 ≤ o
  all_goals
    go_enter Tryz.func157, Tryz.ntmps157
    go_wp2_with fail
    go_ret
    refine ⟨ret_b ?_, rfl⟩
    first | rfl | (simp; omega) | (rw [Bool.eq_iff_iff]; simp; omega)
theorem ohasClass_any (o : Int) (w : World) : Calls Tryz.prog 168 #[.int .i64 o] w fun e w' => e = .returned (.bool ((partsF o).2.1 == 1)) ∧ w = w' := by
  have H := fun W => ohasM_any o W
  rw [m_iff] at H
  rw [c1_iff]
  by_cases h : o = 37
  · subst h
    go_enter Tryz.func168, Tryz.ntmps168
    go_wp2_with fail
    go_ret
    exact ⟨rfl, rfl⟩
  · have h' : (o == 37) = false := beq_eq_false_iff_ne.2 h
    go_enter Tryz.func168, Tryz.ntmps168
    go_wp2_with fail
    refine (H _).mono ?_
    rintro e w' ⟨rfl, rfl⟩
    go_wp2_with fail
    go_ret
    refine ⟨ret_b ?_, rfl⟩
    rw [Bool.eq_iff_iff]; simp; omega
theorem ohasType_any (o : Int) (w : World) : Calls Tryz.prog 169 #[.int .i64 o] w fun e w' => e = .returned (.bool ((partsF o).2.1 == 2)) ∧ w = w' := by
  rw [c2_iff]
  by_cases h1 : o = 50
  · subst h1
    go_enter Tryz.func169, Tryz.ntmps169
    go_wp2_with fail
    go_ret
    exact ⟨rfl, rfl⟩
  have h1' : (o == 50) = false := beq_eq_false_iff_ne.2 h1
  by_cases h2 : o = 56
  · subst h2
    go_enter Tryz.func169, Tryz.ntmps169
    go_wp2_with fail
    go_ret
    exact ⟨rfl, rfl⟩
  have h2' : (o == 56) = false := beq_eq_false_iff_ne.2 h2
  go_enter Tryz.func169, Tryz.ntmps169
  go_wp2_with fail
  go_ret
  refine ⟨ret_b ?_, rfl⟩
  rw [Bool.eq_iff_iff]; simp; omega
def cB (o : Int) : Bool := decide (0 < (partsF o).2.1)
theorem ohasC_any (o : Int) (w : World) : Calls Tryz.prog 154 #[.int .i64 o] w fun e w' => e = .returned (.bool (cB o)) ∧ w = w' := by
  have H1 := fun W => ohasClass_any o W
  have H2 := fun W => ohasType_any o W
  have HC : cB o = (((partsF o).2.1 == 1) || ((partsF o).2.1 == 2)) := by
    unfold cB
    rcases kinds o with ⟨hk, hp⟩ | ⟨hk, hp⟩ | ⟨hk, hp⟩ | ⟨hk, hp⟩ | ⟨hk, hp⟩ <;> rw [hp] <;> rfl
  rw [HC]
  clear HC
  generalize ((partsF o).2.1 == 1) = p at *
  generalize ((partsF o).2.1 == 2) = q at *
  cases p
  · go_enter Tryz.func154, Tryz.ntmps154
    go_wp2_with fail
    refine (H1 _).mono ?_
    rintro e w' ⟨rfl, rfl⟩
    go_wp2_with fail
    refine (H2 _).mono ?_
    rintro e w' ⟨rfl, rfl⟩
    go_wp2_with fail
    go_ret
    exact ⟨rfl, rfl⟩
  · go_enter Tryz.func154, Tryz.ntmps154
    go_wp2_with fail
    refine (H1 _).mono ?_
    rintro e w' ⟨rfl, rfl⟩
    go_wp2_with fail
    go_ret
    exact ⟨rfl, rfl⟩
/-- The least and the most that A may be. -/
def bndF (o : Int) : Int × Int := if o = 1 then (-2147483648, 2147483647) else if o = 3 ∨ o = 4 then (0, 15) else if 20 ≤ o ∧ o ≤ 36 then (0, 99) else (0, 0)
def res2 (r : Int × Int) : Value := .tuple #[.int .i64 r.1, .int .i64 r.2]
theorem ret_2 {a b : Int} {r : Int × Int} (h : (a, b) = r) : Ending.returned (.tuple #[.int .i64 a, .int .i64 b]) = .returned (res2 r) := by rw [← h]; rfl
theorem obounds_any (o : Int) (w : World) : Calls Tryz.prog 167 #[.int .i64 o] w fun e w' => e = .returned (res2 (bndF o)) ∧ w = w' := by
  go_enter Tryz.func167, Tryz.ntmps167
  go_wp2_with (go_at_call 138; refine (ojumps_any o _).mono ?_; rintro e w' ⟨rfl, rfl⟩)
  all_goals
    go_ret2
    refine ⟨ret_2 ?_, rfl⟩
    go_light
    simp_all [bndF, jumpsB]
    try (repeat' split) <;> first | rfl | (exfalso; omega)
theorem ohasA_any (o : Int) (w : World) : Calls Tryz.prog 152 #[.int .i64 o] w fun e w' => e = .returned (.bool (partsF o).1) ∧ w = w' := by
  have H := fun W => obounds_any o W
  have e0 : (partsF o).1 = decide ((bndF o).1 < (bndF o).2) := by
    unfold partsF bndF
    repeat' split
    all_goals first | rfl | (exfalso; omega) | simp
  rw [e0]
  clear e0
  generalize bndF o = r at *
  obtain ⟨x, y⟩ := r
  go_enter Tryz.func152, Tryz.ntmps152
  go_wp2_with fail
  refine (H _).mono ?_
  rintro e w' ⟨rfl, rfl⟩
  simp only [res2]
  go_wp2_with fail
  go_ret
  exact ⟨rfl, rfl⟩
def aB (o a : Int) : Bool := decide ((bndF o).1 ≤ a ∧ a ≤ (bndF o).2)
theorem omayA_any (o a : Int) (w : World) : Calls Tryz.prog 153 #[.int .i64 o, .int .i64 a] w fun e w' => e = .returned (.bool (aB o a)) ∧ w = w' := by
  have H := fun W => obounds_any o W
  unfold aB
  generalize bndF o = r at *
  obtain ⟨x, y⟩ := r
  simp only
  by_cases h : x ≤ a
  all_goals
    go_enter Tryz.func153, Tryz.ntmps153
    go_wp2_with fail
    refine (H _).mono ?_
    rintro e w' ⟨rfl, rfl⟩
    simp only [res2]
    go_wp2_with fail
    go_ret
    exact ⟨ret_b (by first | (simp [h]; done) | (simp; omega)), rfl⟩
def tB (o : Int) (c : List Int) : Bool := if (partsF o).2.1 = 1 then classB c else if (partsF o).2.1 = 2 then refB c else c == []
theorem omayC_any (o : Int) (s : ByteArray) (w : World) (hs : s.size ≤ maxLen) : Calls Tryz.prog 156 #[.int .i64 o, .string s] w fun e w' => e = .returned (.bool (tB o (nums s))) ∧ w = w' := by
  have H1 := fun W => ohasClass_any o W
  have H2 := fun W => ohasType_any o W
  have hce := empty_nums s
  unfold tB
  by_cases h1 : (partsF o).2.1 = 1
  · rw [if_pos h1]
    rw [h1] at H1
    clear H2 h1
    go_enter Tryz.func156, Tryz.ntmps156
    go_wp2_with fail
    refine (H1 _).mono ?_
    rintro e w' ⟨rfl, rfl⟩
    go_wp2_with fail
    refine (kclass_any s _ hs).mono ?_
    rintro e w' ⟨rfl, rfl⟩
    go_wp2_with fail
    go_ret
    exact ⟨rfl, rfl⟩
  rw [if_neg h1]
  rw [beq_eq_false_iff_ne.2 h1] at H1
  by_cases h2 : (partsF o).2.1 = 2
  · rw [if_pos h2]
    rw [h2] at H2
    clear h1 h2
    go_enter Tryz.func156, Tryz.ntmps156
    go_wp2_with fail
    refine (H1 _).mono ?_
    rintro e w' ⟨rfl, rfl⟩
    go_wp2_with fail
    refine (H2 _).mono ?_
    rintro e w' ⟨rfl, rfl⟩
    go_wp2_with fail
    refine (kref_any s _ hs).mono ?_
    rintro e w' ⟨rfl, rfl⟩
    go_wp2_with fail
    go_ret
    exact ⟨rfl, rfl⟩
  · rw [if_neg h2]
    rw [beq_eq_false_iff_ne.2 h2] at H2
    clear h1 h2
    go_enter Tryz.func156, Tryz.ntmps156
    go_wp2_with fail
    refine (H1 _).mono ?_
    rintro e w' ⟨rfl, rfl⟩
    go_wp2_with fail
    refine (H2 _).mono ?_
    rintro e w' ⟨rfl, rfl⟩
    go_wp2_with fail
    go_ret
    exact ⟨ret_b (by first | rfl | exact hce | simp_all), rfl⟩
def nB (o : Int) (m : List Int) : Bool := if (partsF o).2.2 = true then nameB m && !(m == initL) else m == []
theorem omayM_any (o : Int) (s : ByteArray) (w : World) (hs : s.size ≤ maxLen) : Calls Tryz.prog 158 #[.int .i64 o, .string s] w fun e w' => e = .returned (.bool (nB o (nums s))) ∧ w = w' := by
  have H := fun W => ohasM_any o W
  have hme := empty_nums s
  have hmi := beq_nums s [36, 105, 110, 105, 116] initL rfl
  unfold nB
  cases hm : (partsF o).2.2
  · rw [hm] at H
    rw [if_neg (by decide)]
    clear hmi hm
    go_enter Tryz.func158, Tryz.ntmps158
    go_wp2_with fail
    refine (H _).mono ?_
    rintro e w' ⟨rfl, rfl⟩
    go_wp2_with fail
    go_ret
    exact ⟨ret_b (by first | rfl | exact hme | simp_all), rfl⟩
  · rw [hm] at H
    rw [if_pos rfl]
    clear hme hm
    cases hb : (nums s == initL)
    · rw [hb] at hmi
      clear hb
      go_enter Tryz.func158, Tryz.ntmps158
      go_wp2_with fail
      refine (H _).mono ?_
      rintro e w' ⟨rfl, rfl⟩
      go_wp2_with fail
      refine (kname_any s _ hs).mono ?_
      rintro e w' ⟨rfl, rfl⟩
      go_wp2_with fail
      go_ret
      exact ⟨ret_b (by simp), rfl⟩
    · rw [hb] at hmi
      clear hb
      go_enter Tryz.func158, Tryz.ntmps158
      go_wp2_with fail
      refine (H _).mono ?_
      rintro e w' ⟨rfl, rfl⟩
      go_wp2_with fail
      go_ret
      exact ⟨ret_b (by simp), rfl⟩
theorem number_aB (o a : Int) (h : (partsF o).1 = true) : numberB o a = aB o a := by
  unfold numberB aB bndF
  rcases kinds o with ⟨hk, hp⟩ | ⟨hk, hp⟩ | ⟨hk, hp⟩ | ⟨hk, hp⟩ | ⟨hk, hp⟩
  · rw [Bool.eq_iff_iff]
    repeat' split
    all_goals simp
    all_goals omega
  all_goals rw [hp] at h; cases h
theorem zero_aB (o a : Int) (h : (partsF o).1 = false) : (a == 0) = aB o a := by
  unfold aB bndF
  rcases kinds o with ⟨hk, hp⟩ | ⟨hk, hp⟩ | ⟨hk, hp⟩ | ⟨hk, hp⟩ | ⟨hk, hp⟩
  · rw [hp] at h; cases h
  all_goals
    rw [Bool.eq_iff_iff]
    repeat' split
    all_goals simp
    all_goals omega
theorem may_parts (o a : Int) (c m : List Int) : mayIns o a c m = (opB o && (aB o a && (tB o c && nB o m))) := by
  unfold mayIns
  by_cases h0 : o < 1 ∨ 61 < o
  · rw [if_pos h0]
    have : opB o = false := by unfold opB; simp; omega
    rw [this]; rfl
  rw [if_neg h0]
  have h1 : opB o = true := by unfold opB; simp; omega
  rw [h1, Bool.true_and]
  have ha : (((partsF o).1 && !numberB o a) || (!(partsF o).1 && (a != 0))) = !aB o a := by
    cases hA : (partsF o).1
    · rw [← zero_aB o a hA]; simp [bne]
    · rw [number_aB o a hA]; simp
  have hc : ((((partsF o).2.1 == 0) && !(c == [])) || (((partsF o).2.1 == 1) && !classB c) || (((partsF o).2.1 == 2) && !refB c)) = !tB o c := by
    unfold tB
    rcases kinds o with ⟨hk, hp⟩ | ⟨hk, hp⟩ | ⟨hk, hp⟩ | ⟨hk, hp⟩ | ⟨hk, hp⟩ <;> rw [hp] <;> simp
  have hn : (if (partsF o).2.2 = true then nameB m && !(m == initL) else m == []) = nB o m := rfl
  rw [ha, hc, hn]
  cases aB o a <;> cases tB o c <;> simp

set_option maxHeartbeats 1000000 in
theorem omay_any (o a : Int) (c m : ByteArray) (w : World) (hc : c.size ≤ maxLen) (hm : m.size ≤ maxLen) :
    Calls Tryz.prog 137 #[insV o a c m] w fun e w' => e = .returned (.bool (mayIns o a (nums c) (nums m))) ∧ Below w.heap.size w w' := by
  unfold insV
  rw [may_parts]
  have HO := fun W => omayOp_any o W
  have HA := fun W => omayA_any o a W
  have HC := fun W => omayC_any o c W hc
  have HM := fun W => omayM_any o m W hm
  generalize opB o = q1 at *
  generalize aB o a = q2 at *
  generalize tB o (nums c) = q3 at *
  generalize nB o (nums m) = q4 at *
  cases q1 <;> cases q2 <;> cases q3
  all_goals
    go_enter Tryz.func137, Tryz.ntmps137
    go_wp2_with (first | (go_at_call 151; refine (HO _).mono ?_; rintro e w' ⟨rfl, rfl⟩) | (go_at_call 153; refine (HA _).mono ?_; rintro e w' ⟨rfl, rfl⟩) | (go_at_call 156; refine (HC _).mono ?_; rintro e w' ⟨rfl, rfl⟩) | (go_at_call 158; refine (HM _).mono ?_; rintro e w' ⟨rfl, rfl⟩))
    go_ret
    exact ⟨ret_b (by simp), (Below.refl _ _).alloc (Nat.le_refl _) _⟩
end Op4
end Go.Proofs.YtjblmgdjaaeedaaGreat
