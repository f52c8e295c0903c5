/- For every number n, text s and cut the law NumCut answers true: a number's or a text's bytes that are cut off anywhere are told as not all there; no condition on the input. -/
import Derived.Test.YtdceapcfihbapaaRows
import Derived.Test.YtdceapcfihbapaaNumBegun
import Derived.WalkKit
import Derived.ProofKit
import Derived.OpenShut
import Derived.ShutString
import Derived.ChangeOld
import Derived.Below
namespace Go.Proofs.Ytdceapcfihbapaa
namespace NumCut
open Num
open Go.ChangeShapes Go.WideShapes Go.ChangeAt Go.RowKit
open Go.ChangeMaps (open_string shut_string)
set_option linter.unusedVariables false

theorem getText_cut (t : ByteArray) (ht : t.size ≤ 100) (k : Nat) (hk : k < (encT t).length) : getText ((encT t).take k) = ([], 0, 2) := by
  have h64 : Is64 t.size := by unfold Is64; omega
  have hl := encT_length t
  by_cases h : k < (enc t.size).length
  · have e : (encT t).take k = (enc t.size).take k := by rw [encT, List.take_append_of_le_length (by omega)]
    have g := get_cut t.size k h64 h
    unfold getText
    rw [e, g, if_pos (by decide)]
  · have e : (encT t).take k = enc t.size ++ (nums t).take (k - (enc t.size).length) := by rw [encT, List.take_append, List.take_of_length_le (by omega)]
    have g := get_enc t.size ((nums t).take (k - (enc t.size).length)) h64
    unfold getText
    rw [e, g, if_neg (fun h => h rfl), if_neg (by omega), if_pos]
    simp only [List.length_append, List.length_take, nums_length]
    omega
theorem take_bytes {xs : List Int} (h : Bytes xs) (k : Nat) : Bytes (xs.take k) := fun x hx => h x (List.mem_of_mem_take hx)
theorem encT_bytes (t : ByteArray) (ht : t.size ≤ 100) : Bytes (encT t) := by
  intro x hx
  rcases List.mem_append.1 hx with hx | hx
  · exact enc_bd t.size (by unfold Is64; omega) x hx
  · exact nums_bytes t x hx

theorem cut_text (s : ByteArray) : ∃ t : ByteArray, t.size ≤ 100 ∧ ((100 < s.size ∧ s.extract 0 100 = t) ∨ (s.size ≤ 100 ∧ t = s)) := by
  by_cases h : 100 < s.size
  · exact ⟨s.extract 0 100, by simp; omega, .inl ⟨h, rfl⟩⟩
  · exact ⟨s, by omega, .inr ⟨by omega, rfl⟩⟩
theorem str_nil : strOfNums [] = ⟨#[]⟩ := rfl

set_option maxRecDepth 100000 in
set_option maxHeartbeats 2000000 in
theorem walk (n : Int) (s : ByteArray) (cut : Int) (w : World) (w0 : (Lit.int .i64 n).wf = true) (w1 : s.size ≤ maxLen) (w2 : (Lit.int .i64 cut).wf = true) :
    Calls Try.prog 5 #[.int .i64 n, .string s, .int .i64 cut] w fun e w' => e = .returned (.bool true) ∧ Below w.heap.size w w' := by
  have hn : Is64 n := bounds_i64 w0
  have hcut := bounds_i64 w2
  unfold maxLen at w1
  clear w0 w2
  have hen := enc_len n
  obtain ⟨t, ht, hT⟩ := cut_text s
  have hlT := encT_length t
  have hlt := enc_len t.size
  have HL : Hid _ := hlT
  have hlT' : (encT t).length ≤ 110 := by omega
  clear hlT
  rcases hT with ⟨hs, hT⟩ | ⟨hs, rfl⟩
  · have HT : Hid (s.extract 0 100 = t) := hT
    clear hT
    by_cases hc1 : cut < 1
    · go_enter Try.func5, Try.ntmps5
      go_wp2_with fail
      refine (begun_any _).mono ?_
      rintro e w1 ⟨rfl, b1⟩
      go_wp2_with fail
      refine (put_any none 0 0 [] n _ (Has.none _) hn (by decide)).mono ?_
      rintro e w2 ⟨g2, c2, rfl, o2, b2⟩
      simp only [Nat.zero_add, List.nil_append] at o2 ⊢
      go_wp2_with fail
      rw [HT.out]
      refine (put_text none 0 0 [] t _ (Has.none _) (by omega)).mono ?_
      rintro e w3 ⟨g3, c3, rfl, o3, b3⟩
      simp only [Nat.zero_add, List.nil_append] at o3 ⊢
      have d2 : Below w.heap.size w w2 := b1.trans (b2.mono b1.size)
      have d3 : Below w.heap.size w w3 := d2.trans (b3.mono d2.size)
      have hB := (Has.own o2).later b3
      have hC := Has.own o3
      have hBc := hB.cap
      have hCc := hC.cap
      clear o2 o3 b1 b2 b3 d2
      go_wp2_with fail
      go_ret
      exact ⟨rfl, d3⟩
    · obtain ⟨k, rfl⟩ := Int.eq_ofNat_of_zero_le (show 0 ≤ cut by omega)
      by_cases hb : k ≤ (enc n).length
      · by_cases hc : k ≤ (encT t).length
        · go_enter Try.func5, Try.ntmps5
          go_wp2_with fail
          refine (begun_any _).mono ?_
          rintro e w1 ⟨rfl, b1⟩
          go_wp2_with fail
          refine (put_any none 0 0 [] n _ (Has.none _) hn (by decide)).mono ?_
          rintro e w2 ⟨g2, c2, rfl, o2, b2⟩
          simp only [Nat.zero_add, List.nil_append] at o2 ⊢
          go_wp2_with fail
          rw [HT.out]
          refine (put_text none 0 0 [] t _ (Has.none _) (by omega)).mono ?_
          rintro e w3 ⟨g3, c3, rfl, o3, b3⟩
          simp only [Nat.zero_add, List.nil_append] at o3 ⊢
          have d2 : Below w.heap.size w w2 := b1.trans (b2.mono b1.size)
          have d3 : Below w.heap.size w w3 := d2.trans (b3.mono d2.size)
          have hB := (Has.own o2).later b3
          have hC := Has.own o3
          have hBc := hB.cap
          have hCc := hC.cap
          clear o2 o3 b1 b2 b3 d2
          go_wp2_with fail
          refine (get_any _ _ _ ((enc n).take ((enc n).length - k)) _ (hB.take _ (by omega)) (take_bytes (enc_bd n hn) _)).mono ?_
          rintro e w4 ⟨rfl, rfl⟩
          rw [get_cut n _ hn (by omega)]
          simp only [resG]
          go_wp2_with fail
          refine (get_text _ _ _ ((encT t).take ((encT t).length - k)) _ (hC.take _ (by omega)) (take_bytes (encT_bytes t ht) _) (by omega)).mono ?_
          rintro e w5 ⟨rfl, rfl⟩
          rw [getText_cut t ht _ (by omega), resT, str_nil]
          go_wp2_with fail
          go_ret
          exact ⟨rfl, d3⟩
        · go_enter Try.func5, Try.ntmps5
          go_wp2_with fail
          refine (begun_any _).mono ?_
          rintro e w1 ⟨rfl, b1⟩
          go_wp2_with fail
          refine (put_any none 0 0 [] n _ (Has.none _) hn (by decide)).mono ?_
          rintro e w2 ⟨g2, c2, rfl, o2, b2⟩
          simp only [Nat.zero_add, List.nil_append] at o2 ⊢
          go_wp2_with fail
          rw [HT.out]
          refine (put_text none 0 0 [] t _ (Has.none _) (by omega)).mono ?_
          rintro e w3 ⟨g3, c3, rfl, o3, b3⟩
          simp only [Nat.zero_add, List.nil_append] at o3 ⊢
          have d2 : Below w.heap.size w w2 := b1.trans (b2.mono b1.size)
          have d3 : Below w.heap.size w w3 := d2.trans (b3.mono d2.size)
          have hB := (Has.own o2).later b3
          have hC := Has.own o3
          have hBc := hB.cap
          have hCc := hC.cap
          clear o2 o3 b1 b2 b3 d2
          go_wp2_with fail
          refine (get_any _ _ _ ((enc n).take ((enc n).length - k)) _ (hB.take _ (by omega)) (take_bytes (enc_bd n hn) _)).mono ?_
          rintro e w4 ⟨rfl, rfl⟩
          rw [get_cut n _ hn (by omega)]
          simp only [resG]
          go_wp2_with fail
          go_ret
          exact ⟨rfl, d3⟩
      · by_cases hc : k ≤ (encT t).length
        · go_enter Try.func5, Try.ntmps5
          go_wp2_with fail
          refine (begun_any _).mono ?_
          rintro e w1 ⟨rfl, b1⟩
          go_wp2_with fail
          refine (put_any none 0 0 [] n _ (Has.none _) hn (by decide)).mono ?_
          rintro e w2 ⟨g2, c2, rfl, o2, b2⟩
          simp only [Nat.zero_add, List.nil_append] at o2 ⊢
          go_wp2_with fail
          rw [HT.out]
          refine (put_text none 0 0 [] t _ (Has.none _) (by omega)).mono ?_
          rintro e w3 ⟨g3, c3, rfl, o3, b3⟩
          simp only [Nat.zero_add, List.nil_append] at o3 ⊢
          have d2 : Below w.heap.size w w2 := b1.trans (b2.mono b1.size)
          have d3 : Below w.heap.size w w3 := d2.trans (b3.mono d2.size)
          have hB := (Has.own o2).later b3
          have hC := Has.own o3
          have hBc := hB.cap
          have hCc := hC.cap
          clear o2 o3 b1 b2 b3 d2
          go_wp2_with fail
          refine (get_text _ _ _ ((encT t).take ((encT t).length - k)) _ (hC.take _ (by omega)) (take_bytes (encT_bytes t ht) _) (by omega)).mono ?_
          rintro e w5 ⟨rfl, rfl⟩
          rw [getText_cut t ht _ (by omega), resT, str_nil]
          go_wp2_with fail
          go_ret
          exact ⟨rfl, d3⟩
        · go_enter Try.func5, Try.ntmps5
          go_wp2_with fail
          refine (begun_any _).mono ?_
          rintro e w1 ⟨rfl, b1⟩
          go_wp2_with fail
          refine (put_any none 0 0 [] n _ (Has.none _) hn (by decide)).mono ?_
          rintro e w2 ⟨g2, c2, rfl, o2, b2⟩
          simp only [Nat.zero_add, List.nil_append] at o2 ⊢
          go_wp2_with fail
          rw [HT.out]
          refine (put_text none 0 0 [] t _ (Has.none _) (by omega)).mono ?_
          rintro e w3 ⟨g3, c3, rfl, o3, b3⟩
          simp only [Nat.zero_add, List.nil_append] at o3 ⊢
          have d2 : Below w.heap.size w w2 := b1.trans (b2.mono b1.size)
          have d3 : Below w.heap.size w w3 := d2.trans (b3.mono d2.size)
          have hB := (Has.own o2).later b3
          have hC := Has.own o3
          have hBc := hB.cap
          have hCc := hC.cap
          clear o2 o3 b1 b2 b3 d2
          go_wp2_with fail
          go_ret
          exact ⟨rfl, d3⟩
  · by_cases hc1 : cut < 1
    · go_enter Try.func5, Try.ntmps5
      go_wp2_with fail
      refine (begun_any _).mono ?_
      rintro e w1 ⟨rfl, b1⟩
      go_wp2_with fail
      refine (put_any none 0 0 [] n _ (Has.none _) hn (by decide)).mono ?_
      rintro e w2 ⟨g2, c2, rfl, o2, b2⟩
      simp only [Nat.zero_add, List.nil_append] at o2 ⊢
      go_wp2_with fail
      refine (put_text none 0 0 [] t _ (Has.none _) (by omega)).mono ?_
      rintro e w3 ⟨g3, c3, rfl, o3, b3⟩
      simp only [Nat.zero_add, List.nil_append] at o3 ⊢
      have d2 : Below w.heap.size w w2 := b1.trans (b2.mono b1.size)
      have d3 : Below w.heap.size w w3 := d2.trans (b3.mono d2.size)
      have hB := (Has.own o2).later b3
      have hC := Has.own o3
      have hBc := hB.cap
      have hCc := hC.cap
      clear o2 o3 b1 b2 b3 d2
      go_wp2_with fail
      go_ret
      exact ⟨rfl, d3⟩
    · obtain ⟨k, rfl⟩ := Int.eq_ofNat_of_zero_le (show 0 ≤ cut by omega)
      by_cases hb : k ≤ (enc n).length
      · by_cases hc : k ≤ (encT t).length
        · go_enter Try.func5, Try.ntmps5
          go_wp2_with fail
          refine (begun_any _).mono ?_
          rintro e w1 ⟨rfl, b1⟩
          go_wp2_with fail
          refine (put_any none 0 0 [] n _ (Has.none _) hn (by decide)).mono ?_
          rintro e w2 ⟨g2, c2, rfl, o2, b2⟩
          simp only [Nat.zero_add, List.nil_append] at o2 ⊢
          go_wp2_with fail
          refine (put_text none 0 0 [] t _ (Has.none _) (by omega)).mono ?_
          rintro e w3 ⟨g3, c3, rfl, o3, b3⟩
          simp only [Nat.zero_add, List.nil_append] at o3 ⊢
          have d2 : Below w.heap.size w w2 := b1.trans (b2.mono b1.size)
          have d3 : Below w.heap.size w w3 := d2.trans (b3.mono d2.size)
          have hB := (Has.own o2).later b3
          have hC := Has.own o3
          have hBc := hB.cap
          have hCc := hC.cap
          clear o2 o3 b1 b2 b3 d2
          go_wp2_with fail
          refine (get_any _ _ _ ((enc n).take ((enc n).length - k)) _ (hB.take _ (by omega)) (take_bytes (enc_bd n hn) _)).mono ?_
          rintro e w4 ⟨rfl, rfl⟩
          rw [get_cut n _ hn (by omega)]
          simp only [resG]
          go_wp2_with fail
          refine (get_text _ _ _ ((encT t).take ((encT t).length - k)) _ (hC.take _ (by omega)) (take_bytes (encT_bytes t ht) _) (by omega)).mono ?_
          rintro e w5 ⟨rfl, rfl⟩
          rw [getText_cut t ht _ (by omega), resT, str_nil]
          go_wp2_with fail
          go_ret
          exact ⟨rfl, d3⟩
        · go_enter Try.func5, Try.ntmps5
          go_wp2_with fail
          refine (begun_any _).mono ?_
          rintro e w1 ⟨rfl, b1⟩
          go_wp2_with fail
          refine (put_any none 0 0 [] n _ (Has.none _) hn (by decide)).mono ?_
          rintro e w2 ⟨g2, c2, rfl, o2, b2⟩
          simp only [Nat.zero_add, List.nil_append] at o2 ⊢
          go_wp2_with fail
          refine (put_text none 0 0 [] t _ (Has.none _) (by omega)).mono ?_
          rintro e w3 ⟨g3, c3, rfl, o3, b3⟩
          simp only [Nat.zero_add, List.nil_append] at o3 ⊢
          have d2 : Below w.heap.size w w2 := b1.trans (b2.mono b1.size)
          have d3 : Below w.heap.size w w3 := d2.trans (b3.mono d2.size)
          have hB := (Has.own o2).later b3
          have hC := Has.own o3
          have hBc := hB.cap
          have hCc := hC.cap
          clear o2 o3 b1 b2 b3 d2
          go_wp2_with fail
          refine (get_any _ _ _ ((enc n).take ((enc n).length - k)) _ (hB.take _ (by omega)) (take_bytes (enc_bd n hn) _)).mono ?_
          rintro e w4 ⟨rfl, rfl⟩
          rw [get_cut n _ hn (by omega)]
          simp only [resG]
          go_wp2_with fail
          go_ret
          exact ⟨rfl, d3⟩
      · by_cases hc : k ≤ (encT t).length
        · go_enter Try.func5, Try.ntmps5
          go_wp2_with fail
          refine (begun_any _).mono ?_
          rintro e w1 ⟨rfl, b1⟩
          go_wp2_with fail
          refine (put_any none 0 0 [] n _ (Has.none _) hn (by decide)).mono ?_
          rintro e w2 ⟨g2, c2, rfl, o2, b2⟩
          simp only [Nat.zero_add, List.nil_append] at o2 ⊢
          go_wp2_with fail
          refine (put_text none 0 0 [] t _ (Has.none _) (by omega)).mono ?_
          rintro e w3 ⟨g3, c3, rfl, o3, b3⟩
          simp only [Nat.zero_add, List.nil_append] at o3 ⊢
          have d2 : Below w.heap.size w w2 := b1.trans (b2.mono b1.size)
          have d3 : Below w.heap.size w w3 := d2.trans (b3.mono d2.size)
          have hB := (Has.own o2).later b3
          have hC := Has.own o3
          have hBc := hB.cap
          have hCc := hC.cap
          clear o2 o3 b1 b2 b3 d2
          go_wp2_with fail
          refine (get_text _ _ _ ((encT t).take ((encT t).length - k)) _ (hC.take _ (by omega)) (take_bytes (encT_bytes t ht) _) (by omega)).mono ?_
          rintro e w5 ⟨rfl, rfl⟩
          rw [getText_cut t ht _ (by omega), resT, str_nil]
          go_wp2_with fail
          go_ret
          exact ⟨rfl, d3⟩
        · go_enter Try.func5, Try.ntmps5
          go_wp2_with fail
          refine (begun_any _).mono ?_
          rintro e w1 ⟨rfl, b1⟩
          go_wp2_with fail
          refine (put_any none 0 0 [] n _ (Has.none _) hn (by decide)).mono ?_
          rintro e w2 ⟨g2, c2, rfl, o2, b2⟩
          simp only [Nat.zero_add, List.nil_append] at o2 ⊢
          go_wp2_with fail
          refine (put_text none 0 0 [] t _ (Has.none _) (by omega)).mono ?_
          rintro e w3 ⟨g3, c3, rfl, o3, b3⟩
          simp only [Nat.zero_add, List.nil_append] at o3 ⊢
          have d2 : Below w.heap.size w w2 := b1.trans (b2.mono b1.size)
          have d3 : Below w.heap.size w w3 := d2.trans (b3.mono d2.size)
          have hB := (Has.own o2).later b3
          have hC := Has.own o3
          have hBc := hB.cap
          have hCc := hC.cap
          clear o2 o3 b1 b2 b3 d2
          go_wp2_with fail
          go_ret
          exact ⟨rfl, d3⟩

/-! ### The row -/
theorem own : ownKnob Try.prog.godebug = none := by kernel_rfl
theorem laidOut : laidOutB Try.prog = true := by kernel_rfl
set_option maxRecDepth 100000 in
theorem lifted (os : Os) (started : os.Started) (H : Type) (enc : TypeId × Value → H) :
    ReturnsInHanded {} Try.checked os 5 .any (Rows.numCutSpec.pre6 enc Try.prog Try.f5 Rows.numCutRow.domain false) (Rows.numCutSpec.post enc Try.prog Try.f5 false true false false) := by
  refine returnsInHanded_of_change (C := Try.checked) own started (by kernel_rfl) Try.func5
    (ChangeSpec.witness6 (enc := enc) (C := Try.checked) false ⟨#[], #[.int .i64 0, .string ByteArray.empty, .int .i64 0], []⟩ 8 (by kernel_rfl) (by kernel_rfl) (by kernel_rfl) (by kernel_rfl)) ?_
  intro W base args ds gs before hval0 hW hcnd _
  have hval : ∀ (j : Nat) t v, Try.f5.params[j]? = some t → args[j]? = some v → Value.okWide Try.prog W .any base t v := hval0
  have hW' := hW
  obtain ⟨p, q, hA0, hV, rfl, hfz, hnd⟩ := hW
  have hA : DataW.TrodAll enc Try.prog W 0 (fun _ => true) true Try.f5.params.toList args.toList ds p := hA0
  rw [Try.params5] at hA hval
  obtain ⟨v0, vs0, d0, ds0, p0, q0, hargs, rfl, rfl, h0, r0⟩ := trodAll_cons hA
  obtain ⟨v1, vs1, d1, ds1, p1, q1, rfl, rfl, rfl, h1, r1⟩ := trodAll_cons r0
  obtain ⟨v2, vs2, d2, ds2, p2, q2, rfl, rfl, rfl, h2, r2⟩ := trodAll_cons r1
  obtain ⟨rfl, rfl, rfl⟩ := trodAll_nil r2
  obtain rfl : args = #[v0, v1, v2] := by cases args; simp_all
  obtain ⟨rfl, rfl⟩ := trodVars_none hV
  obtain ⟨a0, rfl, rfl, rfl, w0⟩ := open_int Try.underlying2 (hval 0 2 v0 rfl rfl) h0
  obtain ⟨a1, rfl, rfl, rfl, w1⟩ := open_string Try.underlying9 (hval 1 9 v1 rfl rfl) h1
  obtain ⟨a2, rfl, rfl, rfl, w2⟩ := open_int Try.underlying3 (hval 2 3 v2 rfl rfl) h2
  clear hA0 hval0
  refine (walk a0 a1 a2 W w0 w1 w2).mono fun e W' ⟨he, bel⟩ => ?_
  subst he
  exact ⟨_, rfl, _, _, _, [], _, [], hW', trodAll_mk1 (shut_bool Try.underlying4 _), (trodAll_cons_mk (shut_int Try.underlying2 w0) (trodAll_cons_mk (shut_string Try.underlying9 w1) (trodAll_cons_mk (shut_int Try.underlying3 w2) trodAll_mk0))), rfl, bel.frame _, fun h => by cases h⟩

theorem over : Rows.numCutRow.holds Try.pinned (OpenSpec.ofChange Rows.numCutSpec) :=
  OpenClaim.holds_of_wide 5 Try.f5 rfl rfl rfl rfl rfl rfl rfl ⟨rfl, rfl, rfl, rfl, rfl⟩ rfl rfl rfl rfl rfl (by kernel_rfl) Try.func5 (by kernel_rfl)
    (of_decide_eq_true (by kernel_rfl)) (by unfold Func.isWrapper; first | (rw [if_pos (by decide +kernel)]; kernel_rfl) | (rw [if_neg (by decide +kernel)]; exact ⟨rfl, rfl⟩))
    (fun os started H enc _ => lifted os started H enc)

end NumCut

theorem numCut_holds : Rows.NumCutSaid := NumCut.over
#print axioms numCut_holds
end Go.Proofs.Ytdceapcfihbapaa
