/- References are turned, one by one, in their order; ints stay. -/
import Derived.Test.YtjlobkohkfcbpaaRows
import Derived.Test.YtjlobkohkfcbpaaFrBegun
import Derived.Test.YtjlobkohkfcbpaaFrLawR
import Derived.Test.YtjlobkohkfcbpaaFrZeros
import Derived.WalkKit
import Derived.ProofKit
import Derived.OpenShut
import Derived.ShutString
import Derived.ChangeOld
import Derived.Below
namespace Go.Proofs.Ytjlobkohkfcbpaa
namespace FrameRefs
open Mem Fr
open Go.ChangeShapes Go.WideShapes Go.ChangeAt Go.RowKit
open Go.ChangeMaps (open_string shut_string)
set_option linter.unusedVariables false
set_option linter.unusedSimpArgs false
set_option maxRecDepth 100000

/-- What SetRefs is handed for reference i. -/
def mX (tz : List Int) (i : Nat) : Int := match tz[i]? with | some x => if -1 ≤ x ∧ x < 100000 then x else 1000 + (i : Int) | none => 1000 + (i : Int)
theorem mX_bounds (tz : List Int) (i : Nat) (hi : i < 100) : -1 ≤ mX tz i ∧ mX tz i < 100000 := by
  unfold mX
  split
  · split <;> omega
  · omega
def mL (tz : List Int) (n : Nat) : List Int := (List.range n).map (mX tz)
theorem mL_len (tz : List Int) (n : Nat) : (mL tz n).length = n := by simp [mL]
theorem mL_snoc (tz : List Int) (n : Nat) : mL tz (n + 1) = mL tz n ++ [mX tz n] := by simp [mL, List.range_succ]
set_option maxHeartbeats 8000000 in
theorem walk (a0 : Option Addr) (n0 c0 : Nat) (z0 : List Vl) (a1 : Option Addr) (n1 c1 : Nat) (z1 : List Vl) (a2 : Option Addr) (n2 c2 : Nat) (z2 : List Int) (w : World) (h0 : Sl valE 2 w (.slice a0 n0 c0) z0) (h1 : Sl valE 2 w (.slice a1 n1 c1) z1) (h2 : Sl intE 1 w (.slice a2 n2 c2) z2) :
    Calls Try.prog 4 #[.slice a0 n0 c0, .slice a1 n1 c1, .slice a2 n2 c2] w fun e w' => e = .returned (.bool true) ∧ Below w.heap.size w w' := by
  obtain ⟨l0, m0, x0, q0⟩ := vs_len h0
  obtain ⟨l1, m1, x1, q1⟩ := vs_len h1
  obtain ⟨l2, m2, x2, q2⟩ := is_len h2
  have HV0 : Hid (Vs w (.slice a0 n0 c0) z0) := h0
  have HV1 : Hid (Vs w (.slice a1 n1 c1) z1) := h1
  have HI2 : Hid (Is w (.slice a2 n2 c2) z2) := h2
  unfold maxLen at x0 x1 x2
  have HL0 : Hid _ := l0
  have HL1 : Hid _ := l1
  have HL2 : Hid _ := l2
  clear h0 h1 h2 l0 l1 l2 q0 q1 q2
  have CB := begun_any w
  go_enter Try.func4, Try.ntmps4
  go_wp2_with fail
  refine CB.mono ?_
  rintro e w1 ⟨rfl, b1⟩
  clear CB
  go_upto_region 4 with fail
  go_cut [0, 1] (fun v0 v1 wx => v0 = .slice a0 (min n0 16) c0 ∧ v1 = .slice a1 (min n1 16) c1 ∧ Hid (∃ k, wx = w1.drewN k))
  case first =>
    by_cases g0 : 16 < n0 <;> by_cases g1 : 16 < n1
    · have d1 : decide ((16 : Int) < (n0 : Int)) = true := by simp; omega
      have d2 : decide ((16 : Int) < (n1 : Int)) = true := by simp; omega
      have d3 : decide ((n0 : Int) < 16) = false := by simp; omega
      have d4 : decide ((n1 : Int) < 16) = false := by simp; omega
      have i1 : 16 ≤ c0 := by omega
      have i2 : 16 ≤ c1 := by omega
      have e0 : min n0 16 = 16 := by omega
      have e1 : min n1 16 = 16 := by omega
      go_region
      all_goals
        go_wp2_with fail
        go_meet
        case rel => exact ⟨by rw [e0], by rw [e1], ⟨_, rfl⟩⟩
    · have d1 : decide ((16 : Int) < (n0 : Int)) = true := by simp; omega
      have d2 : decide ((16 : Int) < (n1 : Int)) = false := by simp; omega
      have d3 : decide ((n0 : Int) < 16) = false := by simp; omega
      have i1 : 16 ≤ c0 := by omega
      have i2 : n1 ≤ c1 := by omega
      have e0 : min n0 16 = 16 := by omega
      have e1 : min n1 16 = n1 := by omega
      go_region
      all_goals
        go_wp2_with fail
        go_meet
        case rel => exact ⟨by rw [e0], by rw [e1], ⟨_, rfl⟩⟩
    · have d1 : decide ((16 : Int) < (n0 : Int)) = false := by simp; omega
      have d2 : decide ((16 : Int) < (n1 : Int)) = true := by simp; omega
      have d4 : decide ((n1 : Int) < 16) = false := by simp; omega
      have i1 : n0 ≤ c0 := by omega
      have i2 : 16 ≤ c1 := by omega
      have e0 : min n0 16 = n0 := by omega
      have e1 : min n1 16 = 16 := by omega
      go_region
      all_goals
        go_wp2_with fail
        go_meet
        case rel => exact ⟨by rw [e0], by rw [e1], ⟨_, rfl⟩⟩
    · have d1 : decide ((16 : Int) < (n0 : Int)) = false := by simp; omega
      have d2 : decide ((16 : Int) < (n1 : Int)) = false := by simp; omega
      have i1 : n0 ≤ c0 := by omega
      have i2 : n1 ≤ c1 := by omega
      have e0 : min n0 16 = n0 := by omega
      have e1 : min n1 16 = n1 := by omega
      go_region
      all_goals
        go_wp2_with fail
        go_meet
        case rel => exact ⟨by rw [e0], by rw [e1], ⟨_, rfl⟩⟩
  case rest =>
    obtain ⟨rfl, rfl, HW⟩ := hcut
    have hA16 : min n0 16 ≤ 16 := by omega
    have hB16 : min n1 16 ≤ 16 := by omega
    have HVA : Hid (Vs w (.slice a0 (min n0 16) c0) (z0.take (min n0 16))) := vs_take HV0.out _ (by omega)
    have HVB : Hid (Vs w (.slice a1 (min n1 16) c1) (z1.take (min n1 16))) := vs_take HV1.out _ (by omega)
    have hAc : min n0 16 ≤ c0 := by omega
    have hBc : min n1 16 ≤ c1 := by omega
    clear HV0 HV1 HL0 HL1 m0 m1
    generalize z0.take (min n0 16) = LA at *
    generalize z1.take (min n1 16) = LB at *
    generalize min n0 16 = NA at *
    generalize min n1 16 = NB at *
    have B2 : Below w.heap.size w wc := by obtain ⟨k, rfl⟩ := HW.out; exact b1.trans ((below_draws _ _ _).mono b1.size)
    have HLA : Hid (LA.length = NA) := (vs_len HVA.out).1
    have HLB : Hid (LB.length = NB) := (vs_len HVB.out).1
    clear HW b1
    have CA := good_any a0 NA c0 LA wc (HVA.out.later valE_stable B2)
    have CB := good_any a1 NB c1 LB wc (HVB.out.later valE_stable B2)
    cases hga : goodV LA
    · rw [hga] at CA
      clear hga CB
      go_wp2_with fail
      refine CA.mono ?_
      rintro e w' ⟨rfl, rfl⟩
      go_wp2_with fail
      go_ret
      exact ⟨rfl, B2⟩
    rw [hga] at CA
    clear hga
    cases hgb : goodV LB
    · rw [hgb] at CB
      clear hgb
      go_wp2_with fail
      refine CA.mono ?_
      rintro e w' ⟨rfl, rfl⟩
      go_wp2_with fail
      refine CB.mono ?_
      rintro e w' ⟨rfl, rfl⟩
      go_wp2_with fail
      go_ret
      exact ⟨rfl, B2⟩
    rw [hgb] at CB
    clear hgb
    have CN := new_any 0 16 16 a0 NA c0 LA wc (HVA.out.later valE_stable B2) (by simp [mayF]; omega)
    go_wp2_with fail
    refine CA.mono ?_
    rintro e w' ⟨rfl, rfl⟩
    go_wp2_with fail
    refine CB.mono ?_
    rintro e w' ⟨rfl, rfl⟩
    clear CA CB
    go_wp2_with fail
    refine CN.mono ?_
    rintro e w3 ⟨rfl, F3, b3⟩
    clear CN
    have B3 := B2.trans (b3.mono B2.size)
    have hp := B2.size
    generalize wc.heap.size = p at *
    have HF3 : Hid (Fr p w3 p 0 0 (newL 16 LA) 16 []) := F3
    clear F3 b3 B2
    have CP := push_any a1 NB c1 LB HF3.out (HVB.out.later valE_stable B3) (by simp [fits]; omega)
    go_wp2_with fail
    refine CP.mono ?_
    rintro e w4 ⟨rfl, F4, o4⟩
    clear CP
    have B4 := B3.trans (At.below o4 hp B3.size)
    have HF4 : Hid (Fr p w4 p 0 0 (newL 16 LA) 16 LB) := F4
    clear F4 o4 HF3 B3
    have CR := refs_any HF4.out
    go_wp2_with fail
    refine CR.mono ?_
    rintro e w5 ⟨vr, rfl, own5, b5⟩
    clear CR
    have B5 := B4.trans (b5.mono B4.size)
    have HF5 : Hid (Fr p w5 p 0 0 (newL 16 LA) 16 LB) := HF4.out.later b5
    obtain ⟨ra, rc, rfl⟩ := own_sl own5
    have hRL : (refsOf (newL 16 LA ++ LB)).length ≤ 32 := by
      have := refs_len (newL 16 LA ++ LB)
      rw [List.length_append, newL_len _ _ (by rw [HLA.out]; exact hA16), HLB.out] at this
      omega
    clear own5 HF4 B4 b5
    obtain ⟨RL, hRLe⟩ : ∃ RL, RL = (refsOf (newL 16 LA ++ LB)).length := ⟨_, rfl⟩
    rw [← hRLe] at hRL ⊢
    have HRL : Hid _ := hRLe
    clear hRLe
    go_upto_region 13 with fail
    obtain ⟨iN, hiN, hzN0, hzN1, hzN2⟩ := info_parts infoN
    go_loopw [10, 11] (fun mv i wr => ∃ (t : Nat), i = .int .i64 t ∧ t ≤ RL ∧ Hid (wr.ownsRow w5.heap.size 3 1 mv t ((mL z2 t).map (Value.int .i64))) ∧ Below w5.heap.size w5 wr) (fun _ i _ => 32 - (intOf i).toNat)
    case atStart => exact ⟨0, rfl, by omega, World.ownsRow_nil _ _ _ _, Below.refl _ _⟩
    case round =>
      obtain ⟨t, rfl, ht, HR, bw⟩ := hrel
      have BW := B5.trans (bw.mono B5.size)
      by_cases htl : t < RL
      · have d1 : decide ((t : Int) < (RL : Int)) = true := by simp; omega
        have d2 : decide (t < RL) = true := by simp; omega
        have e1 : IntKind.i64.wrap (1000 + (t : Int)) = 1000 + (t : Int) := by rw [IntKind.wrap_i64]; omega
        go_upto_region 15 with fail
        go_cut [12] (fun xv wx => xv = .int .i64 (1000 + (t : Int)) ∧ wx = wr)
        case first =>
          go_wp2_with fail
          go_meet
          case rel => exact ⟨rfl, rfl⟩
        case rest =>
        obtain ⟨rfl, hwc⟩ := hcut
        have hwc := hwc.symm
        subst hwc
        apply_assumption
        refine wp_seq_k (fun K2 hK2 => ?_)
        go_cut [12] (fun xv wx => xv = .int .i64 (mX z2 t) ∧ Hid (∃ k, wx = wr.drewN k))
        case first =>
          by_cases h2 : t < n2
          · have hl2 : t < z2.length := by rw [(is_len HI2.out).1]; exact h2
            obtain ⟨b, off, rfl, z⟩ := is_at (HI2.out.later intE_stable BW) t hl2
            have hmx : mX z2 t = if -1 ≤ z2[t] ∧ z2[t] < 100000 then z2[t] else 1000 + (t : Int) := by
              unfold mX
              rw [List.getElem?_eq_getElem hl2]
            have d3 : decide ((t : Int) < (n2 : Int)) = true := by simp; omega
            have d4 : decide (t < n2) = true := by simp; omega
            generalize z2[t] = x at *
            clear hl2
            by_cases g1 : -1 ≤ x
            · have d5 : decide (-1 ≤ x) = true := by simp; omega
              by_cases g2 : x < 100000
              · have d6 : decide (x < 100000) = true := by simp; omega
                rw [if_pos ⟨g1, g2⟩] at hmx
                have HMX : Hid _ := hmx
                clear hmx g1 g2
                go_wp2_with fail
                go_meet
                case rel => exact ⟨by rw [HMX.out], ⟨0, rfl⟩⟩
              · have d6 : decide (x < 100000) = false := by simp; omega
                rw [if_neg (fun h => g2 h.2)] at hmx
                have HMX : Hid _ := hmx
                clear hmx g1 g2
                go_wp2_with fail
                go_meet
                case rel => exact ⟨by rw [HMX.out], ⟨0, rfl⟩⟩
            · have d5 : decide (-1 ≤ x) = false := by simp; omega
              rw [if_neg (fun h => g1 h.1)] at hmx
              have HMX : Hid _ := hmx
              clear hmx g1
              go_wp2_with fail
              go_meet
              case rel => exact ⟨by rw [HMX.out], ⟨0, rfl⟩⟩
          · have d3 : decide ((t : Int) < (n2 : Int)) = false := by simp; omega
            have d4 : decide (t < n2) = false := by simp; omega
            have HMX : Hid (mX z2 t = 1000 + (t : Int)) := by
              show _ = _
              unfold mX
              rw [List.getElem?_eq_none (by have := (is_len HI2.out).1; omega)]
            go_wp2_with fail
            go_meet
            case rel => exact ⟨by rw [HMX.out], ⟨0, rfl⟩⟩
        case rest =>
          obtain ⟨rfl, HW⟩ := hcut
          have bwc : Below w5.heap.size w5 wc := by obtain ⟨k, rfl⟩ := HW.out; exact bw.trans ((below_draws _ _ _).mono bw.size)
          have HRC : Hid (wc.ownsRow w5.heap.size 3 1 u10 t ((mL z2 t).map (Value.int .i64))) := by obtain ⟨k, rfl⟩ := HW.out; exact own_later HR.out (below_draws _ _ _)
          have HSN : Hid ((mL z2 (t + 1)).map (Value.int .i64) = (mL z2 t).map (Value.int .i64) ++ [.int .i64 (mX z2 t)]) := by
            show _ = _
            rw [mL_snoc, List.map_append]
            rfl
          clear HW HR bw BW e1
          generalize mX z2 t = X at *
          generalize (mL z2 t).map (Value.int .i64) = XS at *
          obtain ⟨fa, fc, rfl⟩ := own_sl HRC.out
          have ka := alloc1 wc (.cells #[.int .i64 X] 3)
          have HRA : Hid _ := own_later HRC.out ka
          have kk := bwc.trans (ka.mono bwc.size)
          have hB := kk.size
          have HNW : Hid (∀ j u, ([.int .i64 X] : List Value)[j]? = some u → (wc.alloc (.cells #[.int .i64 X] 3)).cell? ((⟨wc.heap.size, 0, none⟩ : Addr).add j) = some u) := fun j u hu => by
            rw [Addr.add_lit, Nat.zero_add, blk_cell (blk_new wc _ _) j]
            simpa using hu
          have HON1 : Hid (∀ u ∈ ([.int .i64 X] : List Value), u.oneCell' = true) := by
            intro u hu
            simp at hu
            subst hu
            rfl
          clear HRC ka bwc
          go_wp2_with (at_builtin; refine wpList_append_lies _ rfl (.tmp 82) (.tmp 84) 43 rfl w5.heap.size 3 iN (.int .i64 0) 1 8 Try.underlying43 hiN hzN0 hzN1 hzN2 rfl (by decide) (.slice fa t fc) t XS rfl HRA.out ⟨wc.heap.size, 0, none⟩ 1 1 [.int .i64 X] rfl rfl HNW.out HON1.out (by decide) (by unfold maxLen; omega) (by omega) hB _ rfl ?_; intro g' cap' w8 own8 g8 hat8 hlt8)
          have kk8 := kk.grown g8 hB (fun kx e => (World.ownsRow.lt HRA.out kx e).1)
          rw [← HSN.out] at own8
          have HR2 : Hid _ := own8
          clear own8
          go_roundw
          case rel => exact ⟨t + 1, by go_num, by omega, HR2, kk8⟩
          case measure => simp [intOf]; omega
      · obtain rfl : t = RL := by omega
        have d1 : decide ((t : Int) < (t : Int)) = false := by simp
        have d2 : decide (t < t) = false := by simp
        go_upto_region 19 with fail
        have HMB : Hid (∀ x ∈ mL z2 t, -1 ≤ x ∧ x < 100000) := fun x hx => by
          simp only [mL, List.mem_map, List.mem_range] at hx
          obtain ⟨i, hi, rfl⟩ := hx
          exact mX_bounds z2 i (by omega)
        have HML : Hid ((mL z2 t).length = t) := mL_len z2 t
        generalize mL z2 t = M at *
        obtain ⟨ma, mc, rfl⟩ := own_sl HR.out
        have h64 : ∀ x ∈ M, -9223372036854775808 ≤ x ∧ x ≤ 9223372036854775807 := fun x hx => by have := HMB.out x hx; omega
        have H64 : Hid _ := h64
        have HIM : Hid (Is wr (.slice ma t mc) M) := (own_is HR.out h64).1
        have HFr : Hid (Fr p wr p 0 0 (newL 16 LA) 16 LB) := HF5.out.later bw
        have kl := alloc1 wr (.cells #[.int .i64 5] 3)
        have HLIT : Hid ((wr.alloc (.cells #[.int .i64 5] 3)).ownsRow wr.heap.size 3 1 (.slice (some ⟨wr.heap.size, 0, none⟩) 1 1) 1 (([5] : List Int).map (Value.int .i64))) := World.ownsRow_lit wr #[.int .i64 5] 1 (Nat.le_refl _) (by unfold maxLen; omega) rfl
        have hkl := kl.size
        clear HF5 B5 bw h64
        go_wp2_with (at_builtin; refine wpList_append_is rfl (.tmp 87) (.tmp 88) rfl wr.heap.size (.slice (some ⟨wr.heap.size, 0, none⟩) 1 1) 1 [5] rfl HLIT.out ma t mc M rfl (HIM.out.later intE_stable kl) (by omega) hkl ?_; intro v8 w8 HO8 HG8)
        have b8 : Below wr.heap.size wr w8 := kl.grown HG8.out kl.size (fun k e => by have e' : wr.heap.size = k := (by simpa [Value.ownBlock] using e); omega)
        have F8 := HFr.out.later b8
        have hne8 := fr_own_ne F8 HO8.out (by decide)
        have I8 := (own_is HO8.out (fun x hx => (List.mem_append.1 hx).elim (fun h => by rw [List.mem_singleton.1 h]; omega) (H64.out x))).1
        have CS := setrefs_any F8 v8 ([5] ++ M) I8 hne8
        have hok : okR (refsOf (newL 16 LA ++ LB)).length ([5] ++ M) = false := by
          unfold okR
          rw [← HRL.out, List.length_append, HML.out]
          simp
        rw [show setL (newL 16 LA) LB ([5] ++ M) = newL 16 LA by unfold setL; rw [hok]; rfl, show setS (newL 16 LA) LB ([5] ++ M) = LB by unfold setS; rw [hok]; rfl] at CS
        have BW8 := BW.trans (b8.mono BW.size)
        have HR8 : Hid (w8.ownsRow w5.heap.size 3 1 (.slice ma t mc) t (M.map (Value.int .i64))) := own_later HR.out b8
        have hne9 := fr_own_ne F8 HR8.out (by decide)
        have HNE9 : Hid _ := hne9
        clear hok I8 hne8 hne9 F8 b8 BW HR HIM HFr HLIT kl hkl HO8 HG8
        refine CS.mono ?_
        rintro e w9 ⟨rfl, F9, o9⟩
        clear CS
        have BW9 := BW8.trans (At.below o9 hp BW8.size)
        have HR9 : Hid (w9.ownsRow w5.heap.size 3 1 (.slice ma t mc) t (M.map (Value.int .i64))) := own_off HR8.out o9 (fun k e h => HNE9.out (by rw [e, h]))
        have HF9 : Hid (Fr p w9 p 0 0 (newL 16 LA) 16 LB) := F9
        have HVA9 : Hid (Vs w9 (.slice a0 NA c0) LA) := HVA.out.later valE_stable BW9
        have HVB9 : Hid (Vs w9 (.slice a1 NB c1) LB) := HVB.out.later valE_stable BW9
        have HO9 : Hid (w9.ownsRow w9.heap.size 31 2 (.slice none 0 0) 0 (cellsV [])) := World.ownsRow_nil _ _ _ _
        clear F9 o9 HR8 BW8 HNE9
        have e1 : IntKind.i64.wrap (16 - (NA : Int)) = 16 - (NA : Int) := by rw [IntKind.wrap_i64]; omega
        go_upto_region 20 with fail
        go_wp2_with (at_builtin; first | (refine wpList_append_vs rfl (.const (.slice none 0 0)) (.tmp 92) rfl w9.heap.size (.slice none 0 0) 0 [] rfl HO9.out a0 NA c0 LA rfl HVA9.out (by omega) (Nat.le_refl _) ?_; intro v10 w10 HO10 HG10) | (refine wpList_zv rfl (.tmp 93) (.tmp 96) rfl w9.heap.size v10 (0 + NA) LA rfl HO10.out (16 - NA) (by show Value.int _ _ = _; congr 1; omega) (by omega) HG10.out.size ?_; intro v11 w11 HO11 HG11; obtain ⟨za, zc, rfl⟩ := own_sl HO11.out))
        have HO11' : Hid (w11.ownsRow w9.heap.size 31 2 (.slice za 16 zc) 16 (cellsV (LA ++ List.replicate (16 - NA) v0))) := by
          have h := HO11.out
          rw [show 0 + NA + (16 - NA) = 16 by omega] at h
          exact h
        have b10 : Below w9.heap.size w9 w10 := (Below.refl _ _).grown HG10.out (Nat.le_refl _) (fun k e => by cases e)
        have b11 := b10.grown HG11.out b10.size (fun k e => (World.ownsRow.lt HO10.out k e).1)
        have V11 := (own_vs HO11'.out (fun x hx => (List.mem_append.1 hx).elim (vs_32 HVA.out x) (fun h => by rw [(List.mem_replicate.1 h).2]; exact ⟨by decide, by decide⟩))).1
        have CR := lrefs_true (HF9.out.later b11) _ _ 16 zc NB c1 _ LB V11 (HVB9.out.later valE_stable b11) (by omega) (by omega) (by unfold newL; rw [HLA.out])
        have BW11 := BW9.trans (b11.mono BW9.size)
        have HR11 : Hid (w11.ownsRow w5.heap.size 3 1 (.slice ma t mc) t (M.map (Value.int .i64))) := own_later HR9.out b11
        have HF11 : Hid (Fr p w11 p 0 0 (newL 16 LA) 16 LB) := HF9.out.later b11
        clear V11 HO11' HO11 HG11 HO10 HG10 HO9 HVA9 HVB9 HF9 HR9 BW9 b10 b11
        refine CR.mono ?_
        rintro e w12 ⟨rfl, b12⟩
        clear CR
        have BW12 := BW11.trans (b12.mono BW11.size)
        have HR12 : Hid (w12.ownsRow w5.heap.size 3 1 (.slice ma t mc) t (M.map (Value.int .i64))) := own_later HR11.out b12
        have F12 := HF11.out.later b12
        clear HR11 BW11 HF11 b12
        have hne12 := fr_own_ne F12 HR12.out (by decide)
        have HNE12 : Hid _ := hne12
        have CS := setrefs_any F12 _ M (own_is HR12.out H64.out).1 hne12
        have hfar : M.any far = false := by
          rw [List.any_eq_false]
          intro x hx
          have := HMB.out x hx
          simp only [far, Bool.or_eq_true, decide_eq_true_eq, not_or]
          omega
        have hok : okR (refsOf (newL 16 LA ++ LB)).length M = true := by
          unfold okR
          rw [← HRL.out, HML.out, hfar]
          simp
        rw [show setL (newL 16 LA) LB M = setR (newL 16 LA) M by unfold setL; rw [if_pos hok], show setS (newL 16 LA) LB M = setR LB (M.drop (refsOf (newL 16 LA)).length) by unfold setS; rw [if_pos hok]] at CS
        have hbo := refs_both (newL 16 LA) LB M (by rw [HML.out]; exact HRL.out)
        have HLS : Hid (∀ i (hi : i < LA.length), hasL (setR (newL 16 LA) M).length (i : Int) = true ∧ loadV (setR (newL 16 LA) M) (i : Int) = if LA[i].r then ⟨true, M.getD (refsOf (LA.take i)).length 0 + 1⟩ else LA[i]) := by
          intro i hi
          have hl16 : (newL 16 LA).length = 16 := newL_len _ _ (by rw [HLA.out]; exact hA16)
          have hi16 : i < (newL 16 LA).length := by rw [hl16]; have := HLA.out; omega
          have hh : hasL (setR (newL 16 LA) M).length (i : Int) = true := by
            rw [setR_len, hl16]
            simp [hasL]
            omega
          refine ⟨hh, ?_⟩
          have hat := setR_at (newL 16 LA) M i hi16 (by rw [HML.out, HRL.out, refs_append, List.length_append]; omega)
          have e1 : (newL 16 LA)[i] = LA[i] := by simp [newL, List.getElem_append_left hi]
          have e2 : (newL 16 LA).take i = LA.take i := by unfold newL; rw [List.take_append_of_le_length (by omega)]
          rw [e1, e2] at hat
          unfold loadV
          rw [if_pos hh, Int.toNat_natCast, List.getD_eq_getElem?_getD, hat]
          rfl
        have HKB : Hid (∀ i (hi : i < LA.length), LA[i].r = true → (refsOf (LA.take i)).length < t) := by
          intro i hi hr
          rw [HRL.out, refs_append, List.length_append]
          have := refs_snoc LA i hi
          rw [hr] at this
          have h2 := congrArg List.length this
          rw [List.length_append] at h2
          have h3 := congrArg List.length (refs_pre LA (i + 1))
          rw [List.length_append] at h3
          have h4 : (refsOf (newL 16 LA)).length = (refsOf LA).length + (refsOf (List.replicate (16 - LA.length) v0)).length := by unfold newL; rw [refs_append, List.length_append]
          simp at h2
          omega
        generalize setR (newL 16 LA) M = LS at *
        generalize setR LB (M.drop (refsOf (newL 16 LA)).length) = SS at *
        have HBO : Hid _ := hbo
        clear hbo hok hfar hne12
        go_upto_region 22 with fail
        go_wp2_with fail
        refine CS.mono ?_
        rintro e w13 ⟨rfl, F13, o13⟩
        clear CS
        have BW13 := BW12.trans (At.below o13 hp BW12.size)
        have HR13 : Hid (w13.ownsRow w5.heap.size 3 1 (.slice ma t mc) t (M.map (Value.int .i64))) := own_off HR12.out o13 (fun k e h => HNE12.out (by rw [e, h]))
        have HF13 : Hid (Fr p w13 p 0 0 LS 16 SS) := F13
        have CR := refs_any F13
        rw [HBO.out, HML.out] at CR
        clear F12 F13 o13 HR12 BW12 HNE12
        go_upto_region 23 with fail
        go_wp2_with fail
        refine CR.mono ?_
        rintro e w14 ⟨v14, rfl, own14, b14⟩
        clear CR
        obtain ⟨na, nc, rfl⟩ := own_sl own14
        have BW14 := BW13.trans (b14.mono BW13.size)
        have HN14 : Hid (w14.ownsRow w13.heap.size 3 1 (.slice na t nc) t (M.map (Value.int .i64))) := own14
        have HR14 : Hid (w14.ownsRow w5.heap.size 3 1 (.slice ma t mc) t (M.map (Value.int .i64))) := own_later HR13.out b14
        have HF14 : Hid (Fr p w14 p 0 0 LS 16 SS) := HF13.out.later b14
        clear own14 b14 HR13 BW13 HF13
        go_upto_region 26 with fail
        go_loopw [14, 15] (fun kv i wr => ∃ (q : Nat), i = .int .i64 q ∧ q ≤ NA ∧ kv = .int .i64 ((refsOf (LA.take q)).length : Int) ∧ Below w14.heap.size w14 wr) (fun _ i _ => 16 - (intOf i).toNat)
        case atStart => exact ⟨0, rfl, by omega, rfl, Below.refl _ _⟩
        case round =>
          obtain ⟨q, rfl, hq, rfl, bq⟩ := hrel
          have BWq := BW14.trans (bq.mono BW14.size)
          by_cases hql : q < NA
          · have hql' : q < LA.length := by rw [HLA.out]; exact hql
            have CL := load_any (q : Int) (HF14.out.later bq)
            obtain ⟨hh, hv⟩ := HLS.out q hql'
            have hkb := HKB.out q hql'
            rw [hh, hv] at CL
            obtain ⟨b, off, rfl, y1, y2⟩ := vs_at (HVA.out.later valE_stable BWq) q hql'
            have hsn := refs_snoc LA q hql'
            have d3 : decide ((q : Int) < (NA : Int)) = true := by simp; omega
            have d4 : decide (q < NA) = true := by simp; omega
            generalize LA[q] = x at *
            obtain ⟨xr, xn⟩ := x
            dsimp only at CL y1 y2 hsn hkb
            clear hv hh hql'
            cases xr
            · have HK : Hid ((refsOf (LA.take (q + 1))).length = (refsOf (LA.take q)).length) := by
                show _ = _
                rw [hsn]
                simp
              simp only [Bool.false_eq_true, if_false] at CL
              clear hsn hkb
              go_wp2_with fail
              refine CL.mono ?_
              rintro e w15 ⟨rfl, b15⟩
              clear CL
              have ka := alloc1 w15 (.cells #[.bool false, .int .i32 xn] 31)
              have bn := blk_new w15 #[.bool false, .int .i32 xn] 31
              have z0 := two0 bn
              have z1 := two1 bn
              have y1 := cellOn (cellOn y1 b15) ka
              have y2 := cellOn (cellOn y2 b15) ka
              have b16 := (bq.trans (b15.mono bq.size)).trans (ka.mono (Nat.le_trans bq.size b15.size))
              have d5 : decide (xn = xn) = true := by simp
              clear bn b15
              go_upto_region 29 with fail
              generalize w15.alloc (.cells #[.bool false, .int .i32 xn] 31) = W at *
              clear ka
              generalize w15.heap.size = D at *
              go_quiet (fail)
              all_goals
                go_wp2_with fail
                go_roundw
                case rel => exact ⟨q + 1, by go_num, by omega, by rw [HK.out], b16.trans ((below_draws _ _ _).mono b16.size)⟩
                case measure => simp [intOf]; omega
            · have HK : Hid ((refsOf (LA.take (q + 1))).length = (refsOf (LA.take q)).length + 1) := by
                show _ = _
                rw [hsn]
                simp
              simp only [if_true] at CL
              have hkt := hkb rfl
              clear hsn hkb
              obtain ⟨X, hX⟩ : ∃ X, M[(refsOf (LA.take q)).length]? = some X := ⟨_, List.getElem?_eq_getElem (by rw [HML.out]; exact hkt)⟩
              rw [List.getD_eq_getElem?_getD, hX] at CL
              dsimp only [Option.getD_some] at CL
              have hXB := HMB.out X (List.mem_of_getElem? hX)
              obtain ⟨g, cap, e, _, _, hc1, hc2⟩ := own_some HR14.out (by omega)
              simp only [Value.slice.injEq, true_and] at e
              obtain ⟨rfl, rfl⟩ := e
              have y3 := cellOn (own_cell HR14.out _ (.int .i64 X) (by rw [List.getElem?_map, hX]; rfl)) bq
              go_wp2_with fail
              refine CL.mono ?_
              rintro e w15 ⟨rfl, b15⟩
              clear CL
              have ka := alloc1 w15 (.cells #[.bool true, .int .i32 (X + 1)] 31)
              have bn := blk_new w15 #[.bool true, .int .i32 (X + 1)] 31
              have z0 := two0 bn
              have z1 := two1 bn
              have y1 := cellOn (cellOn y1 b15) ka
              have y2 := cellOn (cellOn y2 b15) ka
              have y3 := cellOn (cellOn y3 b15) ka
              have b16 := (bq.trans (b15.mono bq.size)).trans (ka.mono (Nat.le_trans bq.size b15.size))
              have e2 : IntKind.i64.wrap (X + 1) = X + 1 := by rw [IntKind.wrap_i64]; omega
              clear bn b15 hX
              generalize (refsOf (LA.take q)).length = K at *
              have d5 : decide ((K : Int) < (t : Int)) = true := by simp; omega
              have d6 : decide (K < t) = true := by simp; omega
              have e3 : IntKind.i64.wrap ((K : Int) + 1) = (K : Int) + 1 := by rw [IntKind.wrap_i64]; omega
              obtain ⟨hX1, hX2⟩ := hXB
              go_upto_region 29 with fail
              generalize w15.alloc (.cells #[.bool true, .int .i32 (X + 1)] 31) = W at *
              clear ka
              generalize w15.heap.size = D at *
              go_quiet (fail)
              all_goals
                go_wp2_with fail
                go_roundw
                case rel => exact ⟨q + 1, by go_num, by omega, by rw [HK.out]; go_num, b16.trans ((below_draws _ _ _).mono b16.size)⟩
                case measure => simp [intOf]; omega
          · obtain rfl : q = NA := by omega
            have d3 : decide ((q : Int) < (q : Int)) = false := by simp
            have d4 : decide (q < q) = false := by simp
            obtain ⟨wE, hwE⟩ : ∃ x, x = wr := ⟨_, rfl⟩
            subst hwE
            have HNE : Hid (wE.ownsRow w13.heap.size 3 1 (.slice na t nc) t (M.map (Value.int .i64))) := own_later HN14.out bq
            have HRE : Hid (wE.ownsRow w5.heap.size 3 1 (.slice ma t mc) t (M.map (Value.int .i64))) := own_later HR14.out bq
            clear HN14 HR14 HF14 bq BW14
            go_upto_region 34 with fail
            go_loopw [18] (fun i wr => ∃ (u : Nat), i = .int .i64 u ∧ u ≤ t ∧ Hid (∃ k, wr = wE.drewN k)) (fun i _ => 32 - (intOf i).toNat)
            case atStart => exact ⟨0, rfl, by omega, ⟨0, rfl⟩⟩
            case round =>
              obtain ⟨u, rfl, hu, HT⟩ := hrel
              have hkd : Below wE.heap.size wE wr := by obtain ⟨k, rfl⟩ := HT.out; exact below_draws _ _ _
              by_cases hut : u < t
              · obtain ⟨X, hX⟩ : ∃ X, M[u]? = some X := ⟨_, List.getElem?_eq_getElem (by rw [HML.out]; exact hut)⟩
                obtain ⟨g, cap, e, _, _, _, _⟩ := own_some HRE.out (by omega)
                simp only [Value.slice.injEq, true_and] at e
                obtain ⟨rfl, rfl⟩ := e
                obtain ⟨g', cap', e, _, _, _, _⟩ := own_some HNE.out (by omega)
                simp only [Value.slice.injEq, true_and] at e
                obtain ⟨rfl, rfl⟩ := e
                have y3 := cellOn (own_cell HRE.out u (.int .i64 X) (by rw [List.getElem?_map, hX]; rfl)) hkd
                have y4 := cellOn (own_cell HNE.out u (.int .i64 X) (by rw [List.getElem?_map, hX]; rfl)) hkd
                have d5 : decide ((u : Int) < (t : Int)) = true := by simp; omega
                have d6 : decide (u < t) = true := by simp; omega
                have d7 : decide (X = X) = true := by simp
                clear hX
                go_upto_region 36 with fail
                go_quiet (fail)
                all_goals
                  have HT2 : Hid (∃ k, wr.drewN nq = wE.drewN k) := by
                    obtain ⟨k, rfl⟩ := HT.out
                    exact ⟨k + nq, by first | rfl | simp [World.drewN, Nat.add_assoc]⟩
                  go_wp2_with fail
                  go_roundw
                  case rel => exact ⟨u + 1, by go_num, by omega, HT2⟩
                  case measure => simp [intOf]; omega
              · obtain rfl : u = t := by omega
                have d5 : decide ((u : Int) < (u : Int)) = false := by simp
                have d6 : decide (u < u) = false := by simp
                have d7 : decide ((u : Int) = (u : Int)) = true := by simp
                go_wp2_with fail
                go_ret
                exact ⟨rfl, BWq.trans (hkd.mono BWq.size)⟩

/-! ### The row -/
theorem own : ownKnob Try.prog.godebug = none := by kernel_rfl
theorem laidOut : laidOutB Try.prog = true := by kernel_rfl
set_option maxRecDepth 100000 in
theorem lifted (os : Os) (started : os.Started) (H : Type) (enc : TypeId × Value → H) :
    ReturnsInHanded {} Try.checked os 4 .any (Rows.frameRefsSpec.pre6 enc Try.prog Try.f4 Rows.frameRefsRow.domain false) (Rows.frameRefsSpec.post enc Try.prog Try.f4 false true false false) := by
  refine returnsInHanded_of_change (C := Try.checked) own started (by kernel_rfl) Try.func4
    (ChangeSpec.witness6 (enc := enc) (C := Try.checked) false ⟨#[], #[.slice none 0 0, .slice none 0 0, .slice none 0 0], []⟩ 8 (by kernel_rfl) (by kernel_rfl) (by kernel_rfl) (by kernel_rfl)) ?_
  intro W base args ds gs before hval0 hW hcnd _
  have hval : ∀ (j : Nat) t v, Try.f4.params[j]? = some t → args[j]? = some v → Value.okWide Try.prog W .any base t v := hval0
  have hW' := hW
  obtain ⟨p, q, hA0, hV, rfl, hfz, hnd⟩ := hW
  have hA : DataW.TrodAll enc Try.prog W 0 (fun _ => true) true Try.f4.params.toList args.toList ds p := hA0
  rw [Try.params4] at hA hval
  obtain ⟨v0, vs0, d0, ds0, p0, q0, hargs, rfl, rfl, h0, r0⟩ := trodAll_cons hA
  obtain ⟨v1, vs1, d1, ds1, p1, q1, rfl, rfl, rfl, h1, r1⟩ := trodAll_cons r0
  obtain ⟨v2, vs2, d2, ds2, p2, q2, rfl, rfl, rfl, h2, r2⟩ := trodAll_cons r1
  obtain ⟨rfl, rfl, rfl⟩ := trodAll_nil r2
  obtain rfl : args = #[v0, v1, v2] := by cases args; simp_all
  obtain ⟨rfl, rfl⟩ := trodVars_none hV
  obtain ⟨a0, len0, cap0, rfl⟩ := okWide_slice Try.underlying22 (hval 0 22 v0 rfl rfl)
  have k0 := h0
  have lt0 : ∀ x ∈ p0, x.block < W.heap.size := by obtain ⟨m, hm⟩ := k0; exact DataW.trod_lt m _ _ _ hm
  obtain ⟨z0, w0⟩ : ∃ L, Sl valE 2 W (.slice a0 len0 cap0) L := by
    obtain ⟨fuel, hf⟩ := h0
    obtain ⟨v, L, e, hL⟩ := open_vs hf
    simp [Value.cells] at e
    subst e
    exact ⟨L, hL⟩
  obtain ⟨a1, len1, cap1, rfl⟩ := okWide_slice Try.underlying22 (hval 1 22 v1 rfl rfl)
  have k1 := h1
  have lt1 : ∀ x ∈ p1, x.block < W.heap.size := by obtain ⟨m, hm⟩ := k1; exact DataW.trod_lt m _ _ _ hm
  obtain ⟨z1, w1⟩ : ∃ L, Sl valE 2 W (.slice a1 len1 cap1) L := by
    obtain ⟨fuel, hf⟩ := h1
    obtain ⟨v, L, e, hL⟩ := open_vs hf
    simp [Value.cells] at e
    subst e
    exact ⟨L, hL⟩
  obtain ⟨a2, len2, cap2, rfl⟩ := okWide_slice Try.underlying43 (hval 2 43 v2 rfl rfl)
  have k2 := h2
  have lt2 : ∀ x ∈ p2, x.block < W.heap.size := by obtain ⟨m, hm⟩ := k2; exact DataW.trod_lt m _ _ _ hm
  obtain ⟨z2, w2⟩ : ∃ L, Sl intE 1 W (.slice a2 len2 cap2) L := by
    obtain ⟨fuel, hf⟩ := h2
    obtain ⟨v, L, e, hL⟩ := open_is hf
    simp [Value.cells] at e
    subst e
    exact ⟨L, hL⟩
  clear hA0 hval0
  refine (walk a0 len0 cap0 z0 a1 len1 cap1 z1 a2 len2 cap2 z2 W w0 w1 w2).mono fun e W' ⟨he, bel⟩ => ?_
  subst he
  exact ⟨_, rfl, _, _, _, [], _, [], hW', trodAll_mk1 (shut_bool Try.underlying4 _), (trodAll_cons_mk (Below.trod laidOut (by kernel_rfl) (of_decide_eq_true (by kernel_rfl)) k0 bel lt0) (trodAll_cons_mk (Below.trod laidOut (by kernel_rfl) (of_decide_eq_true (by kernel_rfl)) k1 bel lt1) (trodAll_cons_mk (Below.trod laidOut (by kernel_rfl) (of_decide_eq_true (by kernel_rfl)) k2 bel lt2) trodAll_mk0))), rfl, bel.frame _, fun h => by cases h⟩

theorem over : Rows.frameRefsRow.holds Try.pinned (OpenSpec.ofChange Rows.frameRefsSpec) :=
  OpenClaim.holds_of_wide 4 Try.f4 rfl rfl rfl rfl rfl rfl rfl ⟨rfl, rfl, rfl, rfl, rfl⟩ rfl rfl rfl rfl rfl (by kernel_rfl) Try.func4 (by kernel_rfl)
    (of_decide_eq_true (by kernel_rfl)) (by unfold Func.isWrapper; first | (rw [if_pos (by decide +kernel)]; kernel_rfl) | (rw [if_neg (by decide +kernel)]; exact ⟨rfl, rfl⟩))
    (fun os started H enc _ => lifted os started H enc)

end FrameRefs

theorem frameRefs_holds : Rows.FrameRefsSaid := FrameRefs.over
#print axioms frameRefs_holds
end Go.Proofs.Ytjlobkohkfcbpaa
