/- frame's SetRefs: what speaks of the program. -/
import Derived.Test.YtjlobkohkfcbpaaFrRefs
namespace Go.Proofs.Ytjlobkohkfcbpaa
namespace Fr
open Mem
open Go.RowKit
set_option linter.unusedVariables false
set_option linter.unusedSimpArgs false
set_option maxRecDepth 100000

/-- Is it a place that no reference has room for? -/
def far (x : Int) : Bool := decide (x < -2147483649) || decide (2147483646 < x)
theorem far_any (x : Int) (w : World) : Calls Try.prog 26 #[.int .i64 x] w fun e w' => e = .returned (.bool (far x)) ∧ w = w' := by
  have HE : Hid (far x = (decide (x < -2147483649) || decide (2147483646 < x))) := rfl
  generalize far x = f at *
  cases h1 : decide (x < -2147483649)
  · rw [h1] at HE
    go_enter Try.func26, Try.ntmps26
    go_wp2_with fail
    go_ret
    exact ⟨ret_b (by rw [HE.out]; simp), rfl⟩
  · rw [h1] at HE
    go_enter Try.func26, Try.ntmps26
    go_wp2_with fail
    go_ret
    exact ⟨ret_b (by rw [HE.out]; simp), rfl⟩
abbrev Is := Sl intE 1
set_option maxHeartbeats 4000000 in
theorem index_any (v : Value) (ts : List Int) (w : World) (h : Is w v ts) : Calls Try.prog 27 #[v, .func (.func 26) #[] #[]] w fun e w' => (∃ i, e = .returned (.int .i64 i) ∧ decide (0 ≤ i) = ts.any far) ∧ w = w' := by
  obtain ⟨a, c, rfl, hc1, hc2, hnil, hx⟩ := h
  unfold maxLen at hc2
  have HX : Hid (0 < ts.length → ∃ b off, a = some ⟨b, off, none⟩ ∧ b < w.heap.size ∧ ∀ i (h : i < ts.length), intE w b (off + i * 1) ts[i]) := hx
  clear hx hnil
  go_enter Try.func27, Try.ntmps27
  go_wp2_with fail
  go_loopw [8] (fun i wr => ∃ (t : Nat), i = .int .i64 t ∧ t ≤ ts.length ∧ Hid ((ts.take t).any far = false) ∧ wr = w) (fun i _ => ts.length - (intOf i).toNat)
  case atStart => exact ⟨0, rfl, by omega, by show _ = _; simp, rfl⟩
  case round =>
    obtain ⟨t, rfl, ht, HT, hw⟩ := hrel
    have hw := hw.symm
    subst hw
    by_cases htl : t < ts.length
    · obtain ⟨b, off, rfl, _, hx⟩ := HX.out (by omega)
      have z := (hx t htl).1
      rw [Nat.mul_one] at z
      have HSN : Hid ((ts.take (t + 1)).any far = ((ts.take t).any far || far ts[t])) := by
        show _ = _
        rw [take_snoc ts t htl, List.any_append]
        simp
      have HANY : Hid (far ts[t] = true → ts.any far = true) := fun h => List.any_eq_true.2 ⟨_, List.getElem_mem htl, h⟩
      have d3 : decide ((t : Int) < (ts.length : Int)) = true := by simp; omega
      have d4 : decide (t < ts.length) = true := by simp; omega
      clear hx
      generalize ts[t] = x at *
      have HC := far_any x w
      cases hf : far x
      · rw [hf] at HC HSN
        have HT2 : Hid ((ts.take (t + 1)).any far = false) := by
          show _ = _
          rw [HSN.out, HT.out]
          rfl
        clear hf HSN HANY HT
        go_wp2_with fail
        refine HC.mono ?_
        rintro e w' ⟨rfl, rfl⟩
        go_wp2_with fail
        go_roundw
        case rel => exact ⟨t + 1, by go_num, by omega, HT2, by first | trivial | rfl⟩
        case measure => simp [intOf]; omega
      · rw [hf] at HC
        have HT2 : Hid (ts.any far = true) := HANY.out hf
        clear hf HSN HANY HT
        go_wp2_with fail
        refine HC.mono ?_
        rintro e w' ⟨rfl, rfl⟩
        go_wp2_with fail
        go_ret
        exact ⟨⟨_, rfl, by rw [HT2.out]; simp⟩, rfl⟩
    · have e := HT.out
      rw [List.take_of_length_le (by omega)] at e
      have HE : Hid (ts.any far = false) := e
      have d3 : decide ((t : Int) < (ts.length : Int)) = false := by simp; omega
      have d4 : decide (t < ts.length) = false := by simp; omega
      clear e HT
      go_wp2_with fail
      go_ret
      exact ⟨⟨_, rfl, by rw [HE.out]; decide⟩, rfl⟩
theorem contains_any (v : Value) (ts : List Int) (w : World) (h : Is w v ts) : Calls Try.prog 25 #[v, .func (.func 26) #[] #[]] w fun e w' => e = .returned (.bool (ts.any far)) ∧ w = w' := by
  have HC := index_any v ts w h
  clear h
  generalize ts.any far = q at *
  go_enter Try.func25, Try.ntmps25
  go_wp2_with fail
  refine HC.mono ?_
  rintro e w' ⟨⟨i, rfl, hq⟩, rfl⟩
  go_wp2_with fail
  go_ret
  exact ⟨ret_b (by rw [← hq]), rfl⟩
/-- May they be set? -/
def okR (n : Nat) (ts : List Int) : Bool := decide (ts.length = n) && !ts.any far
/-- What SetRefs makes of locals and stack. -/
def setL (ls st : List Vl) (ts : List Int) : List Vl := if okR (refsOf (ls ++ st)).length ts then setR ls ts else ls
def setS (ls st : List Vl) (ts : List Int) : List Vl := if okR (refsOf (ls ++ st)).length ts then setR st (ts.drop (refsOf ls).length) else st
theorem far_no {ts : List Int} (h : ts.any far = false) : ∀ x ∈ ts, -2147483649 ≤ x ∧ x ≤ 2147483646 := by
  intro x hx
  have := List.any_eq_false.1 h x hx
  simp only [far, Bool.or_eq_true, decide_eq_true_eq, not_or] at this
  omega
theorem setL_len (ls st : List Vl) (ts : List Int) : (setL ls st ts).length = ls.length := by unfold setL; split <;> simp [setR_len]
theorem setS_len (ls st : List Vl) (ts : List Int) : (setS ls st ts).length = st.length := by unfold setS; split <;> simp [setR_len]
theorem setrefs_nil (v : Value) (ts : List Int) (w : World) (h : Is w v ts) : Calls Try.prog 21 #[.pointer none, v] w fun e w' => e = .returned (.tuple #[]) ∧ w = w' := by
  have HC := contains_any v ts w h
  obtain ⟨a, c, rfl, hc1, hc2, hnil, hx⟩ := h
  clear hx hnil
  by_cases h0 : ts.length = 0
  · obtain rfl : ts = [] := List.eq_nil_of_length_eq_zero h0
    clear h0 hc1
    go_enter Try.func21, Try.ntmps21
    go_wp2_with fail
    refine (references_nil _).mono ?_
    rintro e w' ⟨rfl, rfl⟩
    go_wp2_with fail
    refine HC.mono ?_
    rintro e w' ⟨rfl, rfl⟩
    go_wp2_with fail
    go_loopw [20] (fun i wr => i = .int .i64 0 ∧ wr = w) (fun _ _ => 0)
    case atStart => exact ⟨rfl, rfl⟩
    case round =>
      obtain ⟨rfl, hw⟩ := hrel
      have hw := hw.symm
      subst hw
      go_wp2_with fail
      go_returns
      exact ⟨rfl, rfl⟩
  · have d1 : decide ((ts.length : Int) = 0) = false := by rw [decide_eq_false_iff_not]; omega
    have d2 : decide (ts.length = 0) = false := by rw [decide_eq_false_iff_not]; omega
    clear HC
    generalize ts.length = n at *
    go_enter Try.func21, Try.ntmps21
    go_wp2_with (go_at_call 24; refine (references_nil _).mono ?_; rintro e w' ⟨rfl, rfl⟩)
    go_returns
    exact ⟨rfl, rfl⟩
set_option maxHeartbeats 8000000 in
theorem setrefs_any {B : Nat} {w : World} {p : Nat} {m pc : Int} {ls st : List Vl} {r : Nat} (H : Fr B w p m pc ls r st) (v : Value) (ts : List Int) (h : Is w v ts) (hne : v.ownBlock ≠ some p) : Calls Try.prog 21 #[.pointer (some ⟨p, 0, none⟩), v] w fun e w' => e = .returned (.tuple #[]) ∧ Fr B w' p m pc (setL ls st ts) r (setS ls st ts) ∧ Off (At p) w w' := by
  obtain ⟨l1, l2, l3⟩ := H.len
  have hal := allO_32 l1 l2 l3
  have hrl := (allO_len ls st).symm
  have hpl := H.lt
  have HREF := references_any H
  have HH : Hid (Fr _ _ _ _ _ _ _ _) := H
  have HI : Hid (Is w v ts) := h
  obtain ⟨a, c, rfl, hc1, hc2, hnil, hx⟩ := h
  clear hx hnil H
  unfold maxLen at hc2
  have HNE : Hid ((Value.slice a ts.length c).ownBlock ≠ some p) := hne
  have HRL : Hid ((refsOf (ls ++ st)).length = (allO ls st).length) := hrl
  clear hrl hne
  by_cases hlen : ts.length = (allO ls st).length
  · have HLEN : Hid _ := hlen
    clear hlen
    cases hf : ts.any far
    · have HFAR : Hid _ := far_no hf
      have HSL : Hid (setL ls st ts = setR ls ts ∧ setS ls st ts = setR st (ts.drop (refsOf ls).length)) := by
        have : okR (refsOf (ls ++ st)).length ts = true := by unfold okR; rw [HRL.out, hf, HLEN.out]; simp
        exact ⟨by unfold setL; rw [if_pos this], by unfold setS; rw [if_pos this]⟩
      have HF : Hid (ts.any far = false) := hf
      clear hf
      obtain ⟨n, hn⟩ : ∃ n, n = ts.length := ⟨_, rfl⟩
      have HN : Hid _ := hn
      have hNN : (allO ls st).length = n := by rw [hn, HLEN.out]
      rw [← hn] at hc1
      have HG : Hid (Value.slice a ts.length c = Value.slice a n c) := by show _ = _; rw [hn]
      rw [HG.out] at HI HNE ⊢
      clear hn
      rw [hNN] at HREF hal
      have HNN : Hid _ := hNN
      clear hNN
      go_enter Try.func21, Try.ntmps21
      go_wp2_with fail
      refine HREF.mono ?_
      rintro e W ⟨v, rfl, own, b0⟩
      obtain ⟨va, vc, rfl⟩ := own_sl own
      have HOWN : Hid (W.ownsRow w.heap.size 54 1 (.slice va n vc) n ((allO ls st).map (ptr p))) := own
      have hF := HH.out.later b0
      have HFW : Hid (Fr _ _ _ _ _ _ _ _) := hF
      have hIW := HI.out.later intE_stable b0
      have HIW : Hid (Is _ _ _) := hIW
      have HC := contains_any _ ts W hIW
      rw [HF.out] at HC
      clear own HREF HH HI hIW
      go_wp2_with fail
      refine HC.mono ?_
      rintro e w' ⟨rfl, rfl⟩
      clear HC
      obtain ⟨⟨lx, sx, h1, h2, h3⟩, r1, r2, r3, r4, r5⟩ := hF
      have HB : Hid _ := h1
      clear h1
      obtain ⟨C, hC⟩ : ∃ C, C = frC m pc (ls ++ lx) ls.length (st ++ sx) r st.length := ⟨_, rfl⟩
      rw [← hC] at HB
      have hCl : C.length = 69 := by rw [hC]; exact frC_len _ _ _ _ _ _ _ h2 h3
      have HCC : Hid _ := hC
      clear hC
      obtain ⟨ps, hps⟩ : ∃ ps, ps = (allO ls st).zip (ts.map (· + 1)) := ⟨_, rfl⟩
      have HPS : Hid _ := hps
      clear hps
      go_wp2_with fail
      go_loopw [20] (fun i wr => ∃ (t : Nat), i = .int .i64 t ∧ t ≤ n ∧ Hid (wr.heap[p]? = some (.cells (setAll C (ps.take t)).toArray 49 (0, 0))) ∧ Off (At p) W wr) (fun i _ => 32 - (intOf i).toNat)
      case atStart => exact ⟨0, rfl, by omega, HB, Off.refl _ _⟩
      case round =>
        obtain ⟨t, rfl, ht, HT, ow⟩ := hrel
        by_cases htl : t < n
        · obtain ⟨o, ho⟩ : ∃ o, (allO ls st)[t]? = some o := ⟨_, List.getElem?_eq_getElem (by rw [HNN.out]; exact htl)⟩
          obtain ⟨x, hx⟩ : ∃ x, ts[t]? = some x := ⟨_, List.getElem?_eq_getElem (by rw [← HN.out]; exact htl)⟩
          obtain ⟨_, _, _, _, y4⟩ := fr_ref HFW.out t o ho
          obtain ⟨fx1, fx2⟩ := HFAR.out x (List.mem_of_getElem? hx)
          have ho2 := HOWN.out
          obtain ⟨g, cap, e, hgb, _, hcc1, hcc2⟩ := own_some ho2 (by omega)
          simp only [Value.slice.injEq] at e
          obtain ⟨rfl, _, rfl⟩ := e
          have z2 := own_cell (own_off ho2 ow (fun k e => by have e' : g = k := (by simpa [Value.ownBlock] using e); subst e'; show ¬ g = p; omega)) t (ptr p o) (by rw [List.getElem?_map, ho]; rfl)
          unfold ptr at z2
          obtain ⟨a', c', e, _, _, _, hxx⟩ := HIW.out
          simp only [Value.slice.injEq] at e
          obtain ⟨rfl, _, rfl⟩ := e
          obtain ⟨b, off, rfl, _, hxx⟩ := hxx (by rw [← HN.out]; omega)
          have hbp : b ≠ p := fun e => HNE.out (by rw [e]; rfl)
          have z3 := (hxx t (by rw [← HN.out]; omega)).1
          rw [(List.getElem?_eq_some_iff.1 hx).2, Nat.mul_one] at z3
          have z3 : wr.cell? ⟨b, off + t, none⟩ = some (.int .i64 x) := by
            rw [← z3]
            exact World.cell?_of_block (ow.block b (World.block_lt_of_cell? W _ z3) hbp)
          obtain ⟨u, hu⟩ : ∃ u, (setAll C (ps.take t))[o + 1]? = some u := ⟨_, List.getElem?_eq_getElem (by rw [setAll_len, hCl]; exact y4)⟩
          have z4 := (blk_cell HT.out (o + 1)).trans (toA hu)
          have f4 := blk_free HT.out (o + 1)
          have HT2 : Hid ((wr.setCell ⟨p, o + 1, none⟩ (.int .i32 (x + 1))).heap[p]? = some (.cells (setAll C (ps.take (t + 1))).toArray 49 (0, 0))) := by
            have e := blk_set HT.out (o + 1) (.int .i32 (x + 1))
            rw [setA] at e
            have hp : ps[t]? = some (o, x + 1) := by
              rw [HPS.out]
              exact List.getElem?_zip_eq_some.2 ⟨ho, by rw [List.getElem?_map, hx]; rfl⟩
            show _ = _
            rw [List.take_add_one, hp, e, setAll_append]
            rfl
          have ow2 := ow.trans (Off.set (S := At p) wr ⟨p, o + 1, none⟩ (.int .i32 (x + 1)) rfl) (fun k e => .inl e)
          have d3 : decide ((t : Int) < (n : Int)) = true := by simp; omega
          have d4 : decide (t < n) = true := by simp; omega
          have e1 : IntKind.i64.wrap (x + 1) = x + 1 := by rw [IntKind.wrap_i64]; omega
          have e2 : wrap32 (x + 1) = x + 1 := by unfold wrap32; omega
          have e3 : IntKind.i32.wrap (x + 1) = x + 1 := by rw [IntKind.wrap_i32]; omega
          clear hu HT ho ho2 hxx hx
          go_wp2_with fail
          go_roundw
          case rel => exact ⟨t + 1, by go_num, by omega, HT2, ow2⟩
          case measure => simp [intOf]; omega
        · obtain rfl : t = n := by omega
          have d3 : decide ((t : Int) < (t : Int)) = false := by simp
          have d4 : decide (t < t) = false := by simp
          go_wp2_with fail
          go_returns
          refine ⟨rfl, ?_, (Off.below _ b0).trans ow (fun k e => .inl e)⟩
          have hts : ts.length = (refsOf (ls ++ st)).length := by rw [HRL.out, HLEN.out]
          have e := HT.out
          rw [List.take_of_length_le (by rw [HPS.out, List.length_zip, List.length_map, HNN.out, ← HN.out]; simp), HPS.out, HCC.out] at e
          unfold allO at e
          rw [frC_setR m pc _ ls.length _ r st.length h2 h3 ls st lx sx rfl rfl ts hts] at e
          rw [HSL.out.1, HSL.out.2]
          have h32 : ∀ t ∈ ts, Is32 (t + 1) := fun t ht => by have := HFAR.out t ht; exact ⟨by omega, by omega⟩
          refine ⟨⟨lx, sx, by rw [setR_len, setR_len]; exact e, by rw [List.length_append, setR_len, ← List.length_append]; exact h2, by rw [List.length_append, setR_len, ← List.length_append]; exact h3⟩, r1, r2, by rw [setR_len]; exact r3, setR_32 _ _ r4 h32, setR_32 _ _ r5 (fun t ht => h32 t (List.mem_of_mem_drop ht))⟩
    · have HSL : Hid (setL ls st ts = ls ∧ setS ls st ts = st) := by
        have : okR (refsOf (ls ++ st)).length ts = false := by unfold okR; rw [hf]; simp
        exact ⟨by unfold setL; rw [this]; rfl, by unfold setS; rw [this]; rfl⟩
      have HF : Hid (ts.any far = true) := hf
      clear hf
      obtain ⟨n, hn⟩ : ∃ n, n = ts.length := ⟨_, rfl⟩
      have hNN : (allO ls st).length = n := by rw [hn, HLEN.out]
      have HG : Hid (Value.slice a ts.length c = Value.slice a n c) := by show _ = _; rw [hn]
      rw [HG.out] at HI ⊢
      clear hn hc1 HG
      rw [hNN] at HREF
      clear hNN
      go_enter Try.func21, Try.ntmps21
      go_wp2_with fail
      refine HREF.mono ?_
      rintro e W ⟨v, rfl, own, b0⟩
      obtain ⟨va, vc, rfl⟩ := own_sl own
      have HFW : Hid (Fr _ _ _ _ _ _ _ _) := HH.out.later b0
      have HC := contains_any _ ts W (HI.out.later intE_stable b0)
      rw [HF.out] at HC
      clear own HREF HH HI
      go_wp2_with fail
      refine HC.mono ?_
      rintro e w' ⟨rfl, rfl⟩
      clear HC
      go_wp2_with fail
      go_returns
      exact ⟨rfl, by rw [HSL.out.1, HSL.out.2]; exact HFW.out, Off.below _ b0⟩
  · have HSL : Hid (setL ls st ts = ls ∧ setS ls st ts = st) := by
      have : okR (refsOf (ls ++ st)).length ts = false := by unfold okR; rw [HRL.out]; simp [hlen]
      exact ⟨by unfold setL; rw [this]; rfl, by unfold setS; rw [this]; rfl⟩
    have d1 : decide ((ts.length : Int) = ((allO ls st).length : Int)) = false := by rw [decide_eq_false_iff_not]; omega
    have d2 : decide (ts.length = (allO ls st).length) = false := by rw [decide_eq_false_iff_not]; omega
    clear hlen HI HNE HRL
    generalize (allO ls st).length = n at *
    obtain ⟨k, hk⟩ : ∃ k, k = ts.length := ⟨_, rfl⟩
    rw [← hk] at d1 d2 hc1 ⊢
    clear hk
    have d3 : ¬ k = n := of_decide_eq_false d2
    have d4 : ¬ (k : Int) = (n : Int) := of_decide_eq_false d1
    have d5 : (k == n) = false := by simp [d3]
    have d6 : ((k : Int) == (n : Int)) = false := by rw [beq_eq_false_iff_ne]; exact d4
    go_enter Try.func21, Try.ntmps21
    go_wp2_with fail
    refine HREF.mono ?_
    rintro e W ⟨v, rfl, own, b0⟩
    obtain ⟨va, vc, rfl⟩ := own_sl own
    have HFW : Hid (Fr _ _ _ _ _ _ _ _) := HH.out.later b0
    clear own HREF HH
    go_wp2_with fail
    go_returns
    exact ⟨rfl, by rw [HSL.out.1, HSL.out.2]; exact HFW.out, Off.below _ b0⟩
end Fr
end Go.Proofs.Ytjlobkohkfcbpaa
