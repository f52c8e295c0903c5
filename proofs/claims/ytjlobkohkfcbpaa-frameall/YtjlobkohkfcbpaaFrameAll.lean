/- Values are put and taken, loaded and stored, as long as there is room. -/
import Derived.Test.YtjlobkohkfcbpaaRows
import Derived.Test.YtjlobkohkfcbpaaFrBegun
import Derived.Test.YtjlobkohkfcbpaaFaSt
import Derived.WalkKit
import Derived.ProofKit
import Derived.OpenShut
import Derived.ShutString
import Derived.ChangeOld
import Derived.Below
namespace Go.Proofs.Ytjlobkohkfcbpaa
namespace FrameAll
open Mem Fr
open Go.ChangeShapes Go.WideShapes Go.ChangeAt Go.RowKit
open Go.ChangeMaps (open_string shut_string)
set_option linter.unusedVariables false
set_option linter.unusedSimpArgs false
set_option maxRecDepth 100000

theorem new_zero (C : Nat) (z : List Vl) : z.take 0 ++ List.replicate (C - 0) v0 = List.replicate C v0 := by simp
theorem new_step (C : Nat) (z : List Vl) (t : Nat) (ht : t < z.length) (hC : z.length ≤ C) : (z.take t ++ List.replicate (C - t) v0).set t z[t] = z.take (t + 1) ++ List.replicate (C - (t + 1)) v0 := by
  rw [take_snoc' z t ht, List.set_append_right _ _ (by rw [List.length_take]; omega), List.length_take, Nat.min_eq_left (by omega), Nat.sub_self, show C - t = (C - (t + 1)) + 1 by omega, List.replicate_succ, List.set_cons_zero, List.append_assoc]
  rfl
theorem new_all (C : Nat) (z : List Vl) : z.take z.length ++ List.replicate (C - z.length) v0 = newL C z := by rw [List.take_length]; rfl
set_option maxHeartbeats 16000000 in
theorem walk (m loc stk : Int) (a3 : Option Addr) (n3 c3 : Nat) (z3 : List Vl) (a4 : Option Addr) (n4 c4 : Nat) (L : List OpL) (w : World) (hm0 : (Lit.int .i64 m).wf = true) (hm1 : (Lit.int .i64 loc).wf = true) (hm2 : (Lit.int .i64 stk).wf = true) (h3 : Sl valE 2 w (.slice a3 n3 c3) z3) (h4 : Sl opE 3 w (.slice a4 n4 c4) L) :
    Calls Try.prog 3 #[.int .i64 m, .int .i64 loc, .int .i64 stk, .slice a3 n3 c3, .slice a4 n4 c4] w fun e w' => e = .returned (.bool true) ∧ Below w.heap.size w w' := by
  clear hm0 hm1 hm2
  obtain ⟨l3, m3, x3, q3⟩ := vs_len h3
  obtain ⟨l4, m4, x4⟩ := op_len h4
  have HV3 : Hid (Vs w (.slice a3 n3 c3) z3) := h3
  have HL : Hid (Sl opE 3 w (.slice a4 n4 c4) L) := h4
  unfold maxLen at x3 x4
  have HLL : Hid (L.length = n4) := l4
  clear h3 h4 l3 l4 q3
  have CB := begun_any w
  go_enter Try.func3, Try.ntmps3
  go_wp2_with fail
  refine CB.mono ?_
  rintro e w1 ⟨rfl, b1⟩
  clear CB
  go_upto_if 35 with fail
  go_cut [3] (fun v wx => v = .slice a3 (min n3 20) c3 ∧ wx = w1)
  case first =>
    by_cases g : 20 < n3
    · have d1 : decide ((20 : Int) < (n3 : Int)) = true := by simp; omega
      have d2 : decide (20 < n3) = true := by simp; omega
      have i1 : 20 ≤ c3 := by omega
      have e0 : min n3 20 = 20 := by omega
      go_wp2_with fail
      go_meet
      case rel => exact ⟨by rw [e0], rfl⟩
    · have d1 : decide ((20 : Int) < (n3 : Int)) = false := by simp; omega
      have d2 : decide (20 < n3) = false := by simp; omega
      have e0 : min n3 20 = n3 := by omega
      go_wp2_with fail
      go_meet
      case rel => exact ⟨by rw [e0], rfl⟩
  case rest =>
    obtain ⟨rfl, hw⟩ := hcut
    have hw := hw.symm
    subst hw
    have hA20 : min n3 20 ≤ 20 := by omega
    have HVA : Hid (Vs w (.slice a3 (min n3 20) c3) (z3.take (min n3 20))) := vs_take HV3.out _ (by omega)
    have hAc : min n3 20 ≤ c3 := by omega
    clear HV3 m3
    generalize z3.take (min n3 20) = LA at *
    generalize min n3 20 = NA at *
    have HLA : Hid (LA.length = NA) := (vs_len HVA.out).1
    apply_assumption
    go_upto_region 7 with fail
    go_loopw [12] (fun i wr => ∃ (t : Nat), i = .int .i64 t ∧ t ≤ n4 ∧ wr = w1) (fun i _ => n4 - (intOf i).toNat)
    case atStart => exact ⟨0, rfl, by omega, rfl⟩
    case round =>
      obtain ⟨t, rfl, ht, hw⟩ := hrel
      have hw := hw.symm
      subst hw
      by_cases htl : t < n4
      · as_aux_lemma => -- L1
          obtain ⟨b, off, va, vn, vc, rfl, _, _, y, hv, _, _⟩ := op_at (HL.out.later opE_stable b1) t (by rw [HLL.out]; exact htl)
          have CG := good_any va vn vc _ w1 hv
          have d1 : decide ((t : Int) < (n4 : Int)) = true := by simp; omega
          have d2 : decide (t < n4) = true := by simp; omega
          clear hv
          cases hg : goodV (L[t]'(by rw [HLL.out]; exact htl)).vs
          · rw [hg] at CG
            clear hg
            go_wp2_with fail
            refine CG.mono ?_
            rintro e w' ⟨rfl, rfl⟩
            go_wp2_with fail
            go_ret
            exact ⟨rfl, b1⟩
          · rw [hg] at CG
            clear hg
            go_wp2_with fail
            refine CG.mono ?_
            rintro e w' ⟨rfl, rfl⟩
            go_wp2_with fail
            go_roundw
            case rel => exact ⟨t + 1, by go_num, by omega, by first | trivial | rfl⟩
            case measure => simp [intOf]; omega
      · have d1 : decide ((t : Int) < (n4 : Int)) = false := by simp; omega
        have d2 : decide (t < n4) = false := by simp; omega
        clear ht
        have CG := good_any a3 NA c3 LA w1 (HVA.out.later valE_stable b1)
        cases hg : goodV LA
        · rw [hg] at CG
          clear hg
          go_wp2_with fail
          refine CG.mono ?_
          rintro e w' ⟨rfl, rfl⟩
          go_wp2_with fail
          go_ret
          exact ⟨rfl, b1⟩
        rw [hg] at CG
        clear hg
        go_upto_region 11 with fail
        go_wp2_with fail
        refine CG.mono ?_
        rintro e w' ⟨rfl, rfl⟩
        clear CG
        go_upto_region 13 with fail
        cases hmay : mayF loc stk NA
        · as_aux_lemma => -- NO
            have CN := new_no m loc stk a3 NA c3 w1 hmay
            simp only [mayF, Bool.and_eq_false_iff, decide_eq_false_iff_not] at hmay
            go_wp2_with fail
            refine CN.mono ?_
            rintro e w' ⟨rfl, rfl⟩
            clear CN
            go_upto_region 14 with fail
            go_cut [14] (fun v wx => v = .bool false ∧ wx = w1)
            case first =>
              by_cases g1 : 0 ≤ loc
              · have d1 : decide (0 ≤ loc) = true := by simp; omega
                by_cases g2 : loc ≤ 16
                · have d2 : decide (loc ≤ 16) = true := by simp; omega
                  by_cases g3 : 0 ≤ stk
                  · have d3 : decide (0 ≤ stk) = true := by simp; omega
                    by_cases g4 : stk ≤ 16
                    · have d4 : decide (stk ≤ 16) = true := by simp; omega
                      have d5 : decide ((NA : Int) ≤ loc) = false := by simp; omega
                      clear hmay g1 g2 g3 g4
                      go_wp2_with fail
                      go_meet
                      case rel => exact ⟨rfl, rfl⟩
                    · have d4 : decide (stk ≤ 16) = false := by simp; omega
                      clear hmay g1 g2 g3 g4
                      go_wp2_with fail
                      go_meet
                      case rel => exact ⟨rfl, rfl⟩
                  · have d3 : decide (0 ≤ stk) = false := by simp; omega
                    clear hmay g1 g2 g3
                    go_wp2_with fail
                    go_meet
                    case rel => exact ⟨rfl, rfl⟩
                · have d2 : decide (loc ≤ 16) = false := by simp; omega
                  clear hmay g1 g2
                  go_wp2_with fail
                  go_meet
                  case rel => exact ⟨rfl, rfl⟩
              · have d1 : decide (0 ≤ loc) = false := by simp; omega
                clear hmay g1
                go_wp2_with fail
                go_meet
                case rel => exact ⟨rfl, rfl⟩
            case rest =>
              obtain ⟨rfl, hw⟩ := hcut
              have hw := hw.symm
              subst hw
              clear hmay
              go_wp2_with fail
              go_ret
              exact ⟨rfl, b1⟩
        have CN := new_any m loc stk a3 NA c3 LA w1 (HVA.out.later valE_stable b1) hmay
        simp only [mayF, Bool.and_eq_true, decide_eq_true_eq] at hmay
        obtain ⟨g1, g2, g3, g4, g5⟩ := hmay
        obtain ⟨C, rfl⟩ := Int.eq_ofNat_of_zero_le g1
        obtain ⟨R, rfl⟩ := Int.eq_ofNat_of_zero_le g3
        rw [Int.toNat_natCast, Int.toNat_natCast] at CN
        have hC16 : C ≤ 16 := by omega
        have hR16 : R ≤ 16 := by omega
        have hAC : NA ≤ C := by omega
        have e1 : decide ((C : Int) ≤ 16) = true := by simp; omega
        have e1' : decide (C ≤ 16) = true := by simp; omega
        have e2 : decide ((R : Int) ≤ 16) = true := by simp; omega
        have e2' : decide (R ≤ 16) = true := by simp; omega
        have e3 : decide ((NA : Int) ≤ (C : Int)) = true := by simp; omega
        have e3' : decide (NA ≤ C) = true := by simp; omega
        clear g1 g2 g3 g4 g5 d1 d2 htl
        obtain ⟨iV, hiV, hzV0, hzV1, hzV2⟩ := info_parts infoV
        go_wp2_with fail
        refine CN.mono ?_
        rintro e w2 ⟨rfl, F2, b2⟩
        clear CN
        have B2 := b1.trans (b2.mono b1.size)
        have hp := b1.size
        have HF2 : Hid (Fr w1.heap.size w2 w1.heap.size m 0 (newL C LA) R []) := F2
        have hp2 := F2.lt
        clear F2 b2 b1
        generalize w1.heap.size = p at *
        go_wp2_with (at_make; refine wpList_make_full _ rfl (.tmp 85) (.tmp 85) 22 rfl w.heap.size 31 iV zAgg 2 Try.underlying22 hiV hzV0 hzV1 .i64 .i64 (C : Int) (C : Int) C rfl rfl rfl rfl (by rw [hzV2]; omega) (by unfold maxLen; omega) B2.size ?_; intro w3 hown3 hg3)
        have b3 : Below w2.heap.size w2 w3 := (Below.refl _ _).grown hg3 (Nat.le_refl _) (fun k e => by cases e)
        rw [made_two] at hown3
        have HF3 : Hid (Fr p w3 p m 0 (newL C LA) R []) := HF2.out.later b3
        have B3 := B2.trans (b3.mono B2.size)
        have hgl : w2.heap.size < w3.heap.size := (World.ownsRow.lt hown3 _ rfl).2
        have HOL : Hid (w3.ownsRow w.heap.size 31 2 (.slice (some ⟨w2.heap.size, 0, none⟩) C C) C (cellsV (LA.take 0 ++ List.replicate (C - 0) v0))) := by
          show World.ownsRow _ _ _ _ _ _ _
          rw [new_zero]
          exact hown3
        have hw2 := B2.size
        clear hown3 hg3 b3 HF2 B2
        generalize w2.heap.size = g at *
        go_upto_region 21 with fail
        go_loopw [16] (fun i wr => ∃ (t : Nat), i = .int .i64 t ∧ t ≤ NA ∧ Hid (Fr p wr p m 0 (newL C LA) R []) ∧ Hid (wr.ownsRow w.heap.size 31 2 (.slice (some ⟨g, 0, none⟩) C C) C (cellsV (LA.take t ++ List.replicate (C - t) v0))) ∧ Below w.heap.size w wr ∧ w3.heap.size ≤ wr.heap.size) (fun i _ => 20 - (intOf i).toNat)
        case atStart => exact ⟨0, rfl, by omega, HF3, HOL, B3, Nat.le_refl _⟩
        case round =>
          obtain ⟨t, rfl, ht, HF, HO, bw, hsz⟩ := hrel
          by_cases htl : t < NA
          · as_aux_lemma => -- L2
              have htl' : t < LA.length := by rw [HLA.out]; exact htl
              obtain ⟨b, off, rfl, y1, y2⟩ := vs_at (HVA.out.later valE_stable bw) t htl'
              have d1 : decide ((t : Int) < (NA : Int)) = true := by simp; omega
              have d2 : decide (t < NA) = true := by simp; omega
              have d3 : decide ((t : Int) < (C : Int)) = true := by simp; omega
              have d4 : decide (t < C) = true := by simp; omega
              have hlen : t < (LA.take t ++ List.replicate (C - t) v0).length := by rw [List.length_append, List.length_take, List.length_replicate, HLA.out]; omega
              obtain ⟨q1, q2⟩ := cellsV_at (LA.take t ++ List.replicate (C - t) v0) t hlen
              have z1 := HO.out.cellAt (t * 2) (by omega)
              have z2 := HO.out.cellAt (t * 2 + 1) (by omega)
              rw [Nat.mul_comm 2 t] at q1 q2
              rw [q1] at z1
              rw [q2] at z2
              have f1 := HO.out.frozenAt (t * 2)
              have f2 := HO.out.frozenAt (t * 2 + 1)
              have hput := own_put HO.out t hlen LA[t]
              rw [new_step C LA t htl' (by rw [HLA.out]; exact hAC)] at hput
              have hgp : g ≠ p := by omega
              have hfr := HF.out.put hgp (t * 2) (t * 2 + 1) (.bool LA[t].r) (.int .i32 LA[t].n)
              have hgw : w.heap.size ≤ g := hw2
              have HP : Hid _ := hput
              have HFP : Hid (Fr _ _ _ _ _ _ _ _) := hfr
              have b4 := (bw.setCell (p := ⟨g, t * 2, none⟩) hgw (.bool LA[t].r)).setCell (p := ⟨g, t * 2 + 1, none⟩) hgw (.int .i32 LA[t].n)
              have hs4 : w3.heap.size ≤ ((wr.setCell ⟨g, t * 2, none⟩ (.bool LA[t].r)).setCell ⟨g, t * 2 + 1, none⟩ (.int .i32 LA[t].n)).heap.size := by simpa [World.setCell] using hsz
              clear hput hfr q1 q2 HO HF
              generalize (LA.take t ++ List.replicate (C - t) v0)[t] = y0 at *
              clear hlen
              generalize LA[t] = x at *
              clear htl'
              obtain ⟨xr, xn⟩ := x
              dsimp only at *
              go_wp2_with fail
              go_roundw
              case rel => exact ⟨t + 1, by go_num, by omega, HFP, HP, b4, hs4⟩
              case measure => simp [intOf]; omega
          · as_aux_lemma => -- MAIN
              obtain rfl : t = NA := by omega
              have d1 : decide ((t : Int) < (t : Int)) = false := by simp
              have d2 : decide (t < t) = false := by simp
              have HOW := HO.out
              rw [← HLA.out, new_all] at HOW
              obtain ⟨W, hWr⟩ : ∃ x, x = wr := ⟨_, rfl⟩
              have hRW0 : Rw w wr wr p C (.slice (some ⟨g, 0, none⟩) C C) (.slice none 0 0) (newL C LA) [] :=
                ⟨newL_len _ _ (by rw [HLA.out]; exact hAC), HOW, World.ownsRow_nil _ _ _ _, (fun k e => by have e' : g = k := (by simpa [Value.ownBlock] using e); omega), hp, Nat.lt_of_lt_of_le hp2 (by omega), bw, Nat.le_refl _⟩
              have HRW : Hid (Rw w W wr p C (.slice (some ⟨g, 0, none⟩) C C) (.slice none 0 0) (newL C LA) []) := by rw [hWr]; exact hRW0
              have HF0 : Hid (Fr p wr p m 0 (newL C LA) R []) := HF.out
              subst hWr
              clear HOW HO HF bw hsz hRW0 HOL HF3 B3
              go_upto_region 27 with fail
              go_loopw [17, 18, 19] (fun sv pcv iv wr => ∃ (j : Nat) (pc : Int) (ls st : List Vl), iv = .int .i64 j ∧ j ≤ n4 ∧ j ≤ 50 ∧ pcv = .int .i64 pc ∧ Hid (Fr p wr p m pc ls R st) ∧ Hid (Rw w W wr p C (.slice (some ⟨g, 0, none⟩) C C) sv ls st)) (fun _ _ iv _ => 50 - (intOf iv).toNat)
              case atStart => exact ⟨0, 0, newL C LA, [], rfl, by omega, by omega, rfl, HF0, HRW⟩
              case round =>
                clear HF0 HRW
                obtain ⟨j, pc, ls, st, rfl, hj1, hj2, rfl, HF, HR⟩ := hrel
                by_cases hin : j < n4 ∧ j < 50
                · obtain ⟨hin1, hin2⟩ := hin
                  obtain ⟨b, off, va, vn, vc, rfl, y0, y1, y2, hv, ok1, ok2⟩ := op_at HL.out j (by rw [HLL.out]; exact hin1)
                  have y0 := cellOn y0 HR.out.be
                  have y1 := cellOn y1 HR.out.be
                  have y2 := cellOn y2 HR.out.be
                  generalize L[j]'(by rw [HLL.out]; exact hin1) = o at *
                  obtain ⟨kd, I, vs⟩ := o
                  dsimp only at y0 y1 hv ok1 ok2
                  have d1 : decide ((j : Int) < (n4 : Int)) = true := by rw [decide_eq_true_eq]; omega
                  have d2 : decide (j < n4) = true := by rw [decide_eq_true_eq]; omega
                  have d3 : decide ((j : Int) < 50) = true := by rw [decide_eq_true_eq]; omega
                  have d4 : decide (j < 50) = true := by rw [decide_eq_true_eq]; omega
                  have ka := alloc1 wr (.cells #[.int .i64 kd, .int .i64 I, .slice va vn vc] 27)
                  have HBX0 : Hid ((wr.alloc (.cells #[.int .i64 kd, .int .i64 I, .slice va vn vc] 27)).heap[wr.heap.size]? = some (.cells #[.int .i64 kd, .int .i64 I, .slice va vn vc] 27 (0, 0))) := blk_new wr _ _
                  have HFb0 : Hid (Fr p (wr.alloc (.cells #[.int .i64 kd, .int .i64 I, .slice va vn vc] 27)) p m pc ls R st) := HF.out.later ka
                  have HRb0 : Hid (Rw w W (wr.alloc (.cells #[.int .i64 kd, .int .i64 I, .slice va vn vc] 27)) p C (.slice (some ⟨g, 0, none⟩) C C) u17 ls st) := HR.out.later ka
                  have HVb0 : Hid (Vs w (.slice va vn vc) vs) := hv
                  have HDW : W.heap.size ≤ wr.heap.size := HR.out.bg
                  have HPW : p < W.heap.size := HR.out.p1
                  clear ka hv HF HR
                  go_upto_region 29 with fail
                  go_cut [20] (fun v wx => v = .pointer (some ⟨wr.heap.size, 0, none⟩) ∧ wx = wr.alloc (.cells #[.int .i64 kd, .int .i64 I, .slice va vn vc] 27))
                  case first =>
                    as_aux_lemma => -- BX
                      go_wp2_with fail
                      go_meet
                      case rel => exact ⟨rfl, rfl⟩
                  case rest =>
                    obtain ⟨rfl, hw⟩ := hcut
                    have hw := hw.symm
                    subst hw
                    clear y0 y1 y2 d1 d2 d3 d4
                    generalize wr.alloc (.cells #[.int .i64 kd, .int .i64 I, .slice va vn vc] 27) = wb at *
                    generalize wr.heap.size = D at *
                    apply_assumption
                    refine wp_seq_k (fun K2 hK2 => ?_)
                    go_cut [17, 18] (fun sv pcv wx => ∃ (pc : Int) (ls st : List Vl), pcv = .int .i64 pc ∧ Hid (Fr p wx p m pc ls R st) ∧ Hid (Rw w W wx p C (.slice (some ⟨g, 0, none⟩) C C) sv ls st))
                    case first =>
                      have HDp : D ≠ p := by omega
                      obtain ⟨sa, sc, rfl⟩ := own_sl HRb0.out.s
                      have hSl := HFb0.out.len
                      have hS16 : st.length ≤ 16 := by omega
                      have hSR : st.length ≤ R := hSl.2.1
                      clear hSl
                      have x0 : wb.cell? ⟨D, 0, none⟩ = some (.int .i64 kd) := blk_cell HBX0.out 0
                      have x1 : wb.cell? ⟨D, 1, none⟩ = some (.int .i64 I) := blk_cell HBX0.out 1
                      have x2 : wb.cell? ⟨D, 2, none⟩ = some (.slice va vn vc) := blk_cell HBX0.out 2
                      by_cases k0 : kd = 0
                      · subst k0
                        as_aux_lemma => -- ARM0
                          go_upto_region 34 with fail
                          go_cut [21] (fun v wx => v = .slice va (min vn 20) vc ∧ wx = wb)
                          case first =>
                            obtain ⟨hvl, hvc1, hvc2, _⟩ := vs_len HVb0.out
                            clear hvl
                            unfold maxLen at hvc2
                            by_cases g20 : 20 < vn
                            · have d1 : decide ((20 : Int) < (vn : Int)) = true := by rw [decide_eq_true_eq]; omega
                              have d2 : decide ((vn : Int) < 20) = false := by rw [decide_eq_false_iff_not]; omega
                              have i1 : 20 ≤ vc := by omega
                              have e0 : min vn 20 = 20 := by omega
                              go_wp2_with fail
                              go_meet
                              case rel => exact ⟨by rw [e0], rfl⟩
                            · have d1 : decide ((20 : Int) < (vn : Int)) = false := by rw [decide_eq_false_iff_not]; omega
                              have d2 : decide (20 < vn) = false := by rw [decide_eq_false_iff_not]; omega
                              have e0 : min vn 20 = vn := by omega
                              go_wp2_with fail
                              go_meet
                              case rel => exact ⟨by rw [e0], rfl⟩
                          case rest =>
                            obtain ⟨rfl, hw⟩ := hcut
                            have hw := hw.symm
                            subst hw
                            have hv20 : min vn 20 ≤ vn := by omega
                            have hn20 : min vn 20 ≤ 20 := by omega
                            have HVw : Hid (Vs w (.slice va (min vn 20) vc) (vs.take (min vn 20))) := vs_take HVb0.out _ hv20
                            have hlt := (vs_len HVw.out).1
                            generalize vs.take (min vn 20) = l at *
                            generalize min vn 20 = nv at *
                            have HLt : Hid (l.length = nv) := hlt
                            clear hlt hv20
                            generalize hS : st.length = S at *
                            have HS : Hid _ := hS
                            clear hS
                            have e1 : IntKind.i64.wrap ((S : Int) + (nv : Int)) = (S : Int) + (nv : Int) := by rw [IntKind.wrap_i64]; omega
                            cases hf : fits R S nv
                            · have CP := push_no va nv vc HFb0.out (by rw [HS.out]; exact hf)
                              have dd : decide ((S : Int) + (nv : Int) ≤ (R : Int)) = false := by
                                simp only [fits, decide_eq_false_iff_not] at hf
                                rw [decide_eq_false_iff_not]
                                omega
                              clear hf
                              go_wp2_with fail
                              refine CP.mono ?_
                              rintro e w4 ⟨rfl, nq, rfl⟩
                              have HF4 : Hid (Fr p (wb.drewN nq) p m pc ls R st) := HFb0.out.later (below_draws _ _ _)
                              have HR4 : Hid (Rw w W (wb.drewN nq) p C (.slice (some ⟨g, 0, none⟩) C C) (.slice sa S sc) ls st) := HRb0.out.later (below_draws _ _ _)
                              clear CP x0 x1 x2
                              generalize wb.drewN nq = w4 at *
                              go_wp2_with fail
                              go_meet
                              case rel => exact ⟨pc, ls, st, rfl, HF4, HR4⟩
                            · have CP := push_any va nv vc l HFb0.out (HVw.out.later valE_stable HRb0.out.be) (by rw [HS.out]; exact hf)
                              have dd : decide ((S : Int) + (nv : Int) ≤ (R : Int)) = true := by
                                simp only [fits, decide_eq_true_eq] at hf
                                rw [decide_eq_true_eq]
                                omega
                              clear hf
                              go_wp2_with fail
                              refine CP.mono ?_
                              rintro e w4 ⟨rfl, F4, o4⟩
                              have HF4 : Hid (Fr p w4 p m pc ls R (st ++ l)) := F4
                              have HR4 : Hid (Rw w W w4 p C (.slice (some ⟨g, 0, none⟩) C C) (.slice sa S sc) ls st) := HRb0.out.off HFb0.out o4
                              have hs4 := HR4.out.s
                              rw [HS.out] at hs4
                              have HSv : Hid (Vs w4 (.slice sa S sc) st) := (own_vs hs4 HFb0.out.s32).1
                              have HO : Hid (w4.ownsRow w4.heap.size 31 2 (.slice none 0 0) 0 (cellsV [])) := World.ownsRow_nil _ _ _ _
                              clear CP x0 x1 x2 F4 o4 hs4
                              go_upto_region 39 with fail
                              go_wp2_with (at_builtin; first | (refine wpList_append_vs rfl (.const (.slice none 0 0)) (.tmp 144) rfl w4.heap.size (.slice none 0 0) 0 [] rfl HO.out sa S sc st rfl HSv.out (by omega) (Nat.le_refl _) ?_; intro v5 w5 HO5 HG5) | (refine wpList_append_vs rfl (.tmp 145) (.tmp 146) rfl w4.heap.size v5 (0 + S) st rfl HO5.out va nv vc l rfl (HVw.out.later valE_stable (HR4.out.be.trans (((Below.refl w4.heap.size w4).grown HG5.out (Nat.le_refl _) (fun k e => by cases e)).mono HR4.out.be.size))) (by omega) HG5.out.size ?_; intro v6 w6 HO6 HG6))
                              have b5 : Below w4.heap.size w4 w5 := (Below.refl w4.heap.size w4).grown HG5.out (Nat.le_refl _) (fun k e => by cases e)
                              have b6 := b5.grown HG6.out b5.size (fun k e => (World.ownsRow.lt HO5.out k e).1)
                              have HR6 : Hid (Rw w W w6 p C (.slice (some ⟨g, 0, none⟩) C C) v6 ls (st ++ l)) := by
                                have h := HO6.out
                                rw [show 0 + S + nv = (st ++ l).length by rw [List.length_append, HS.out, HLt.out]; omega] at h
                                exact HR4.out.stack b6 (own_low h HR4.out.bg)
                              have HF6 : Hid (Fr p w6 p m pc ls R (st ++ l)) := HF4.out.later b6
                              clear HO HO5 HG5 HO6 HG6 HSv HR4 HF4 b5 b6
                              go_wp2_with fail
                              go_meet
                              case rel => exact ⟨pc, ls, st ++ l, rfl, HF6, HR6⟩
                      by_cases k1 : kd = 1
                      · subst k1
                        as_aux_lemma => -- ARM1
                          generalize hS : st.length = S at *
                          have HS : Hid _ := hS
                          clear hS
                          by_cases hI : 0 ≤ I ∧ I ≤ (S : Int)
                          · obtain ⟨hI0, hI1⟩ := hI
                            obtain ⟨k, rfl⟩ := Int.eq_ofNat_of_zero_le hI0
                            obtain ⟨K, hK⟩ : ∃ K, S = K + k := ⟨S - k, by omega⟩
                            have hF : Fr p wb p m pc ls R (st.take K ++ st.drop K) := by rw [List.take_append_drop]; exact HFb0.out
                            have CP := pop_any hF k (by rw [List.length_drop, HS.out]; omega)
                            have e1 : (S : Int) - (k : Int) = (K : Int) := by omega
                            have e2 : IntKind.i64.wrap ((S : Int) - (k : Int)) = (K : Int) := by rw [IntKind.wrap_i64]; omega
                            have e3 : IntKind.i64.wrap (K : Int) = (K : Int) := by rw [IntKind.wrap_i64]; omega
                            have e5 : S - K = k := by omega
                            have i1 : K ≤ S := by omega
                            have hs0 := HRb0.out.s
                            rw [HS.out] at hs0
                            have hsc : S ≤ sc := by have := (vs_len (own_vs hs0 HFb0.out.s32).1).2.1; exact this
                            have i2 : K ≤ sc := by omega
                            have d1 : decide ((k : Int) ≤ (S : Int)) = true := by rw [decide_eq_true_eq]; omega
                            have d2 : decide (k ≤ S) = true := by rw [decide_eq_true_eq]; omega
                            have hsh := slice_head sa S sc K i2
                            have HKS : Hid (S = K + k) := hK
                            clear hF hs0 hK hI0 hI1
                            by_cases hsk : sc = K
                            · subst hsk
                              go_wp2_with fail
                              refine CP.mono ?_
                              rintro e w4 ⟨v4, rfl, own4, F4, o4⟩
                              clear CP
                              obtain ⟨pa, pcap, rfl⟩ := own_sl own4
                              have z1 : w4.cell? ⟨D, 1, none⟩ = some (.int .i64 (k : Int)) := blk_cell (blk_off HBX0.out o4 HDp) 1
                              have HF4 : Hid (Fr p w4 p m pc ls R (st.take sc)) := F4
                              have HR4 : Hid (Rw w W w4 p C (.slice (some ⟨g, 0, none⟩) C C) (.slice sa S sc) ls st) := HRb0.out.off HFb0.out o4
                              have HP4 : Hid (Vs w4 (.slice pa k pcap) (st.drop sc)) := (own_vs own4 (fun x hx => HFb0.out.s32 x (List.mem_of_mem_drop hx))).1
                              have hs4 := HR4.out.s
                              rw [HS.out] at hs4
                              obtain ⟨hsl, hvd⟩ := vs_drop (own_vs hs4 HFb0.out.s32).1 sc i1
                              rw [e5] at hsl hvd
                              rw [if_pos rfl, Nat.sub_self] at hvd hsl
                              have HVD : Hid (Vs w4 (.slice sa k 0) (st.drop sc)) := hvd
                              clear F4 o4 own4 hs4 hvd x0 x1 x2
                              go_wp2_with fail
                              refine (eq_same pa _ k pcap _ (st.drop sc) w4 HP4.out HVD.out).mono ?_
                              rintro e w5 ⟨rfl, nq, rfl⟩
                              have z1 : (w4.drewN nq).cell? ⟨D, 1, none⟩ = some (.int .i64 (k : Int)) := cellOn z1 (below_draws _ _ _)
                              have HF5 : Hid (Fr p (w4.drewN nq) p m pc ls R (st.take sc)) := HF4.out.later (below_draws _ _ _)
                              have HR5 : Hid (Rw w W (w4.drewN nq) p C (.slice (some ⟨g, 0, none⟩) C C) (.slice sa sc sc) ls (st.take sc)) := (HR4.out.later (below_draws _ _ _)).cut HS.out sc i1
                              clear HF4 HR4 HP4 HVD
                              generalize w4.drewN nq = w5 at *
                              go_wp2_with fail
                              go_meet
                              case rel => exact ⟨pc, ls, st.take sc, rfl, HF5, HR5⟩
                            · go_wp2_with fail
                              refine CP.mono ?_
                              rintro e w4 ⟨v4, rfl, own4, F4, o4⟩
                              clear CP
                              obtain ⟨pa, pcap, rfl⟩ := own_sl own4
                              have z1 : w4.cell? ⟨D, 1, none⟩ = some (.int .i64 (k : Int)) := blk_cell (blk_off HBX0.out o4 HDp) 1
                              have HF4 : Hid (Fr p w4 p m pc ls R (st.take K)) := F4
                              have HR4 : Hid (Rw w W w4 p C (.slice (some ⟨g, 0, none⟩) C C) (.slice sa S sc) ls st) := HRb0.out.off HFb0.out o4
                              have HP4 : Hid (Vs w4 (.slice pa k pcap) (st.drop K)) := (own_vs own4 (fun x hx => HFb0.out.s32 x (List.mem_of_mem_drop hx))).1
                              have hs4 := HR4.out.s
                              rw [HS.out] at hs4
                              obtain ⟨hsl, hvd⟩ := vs_drop (own_vs hs4 HFb0.out.s32).1 K i1
                              rw [e5] at hsl hvd
                              rw [if_neg hsk] at hvd hsl
                              have HVD : Hid (Vs w4 (.slice (sa.map (·.add (K * 2))) k (sc - K)) (st.drop K)) := hvd
                              clear F4 o4 own4 hs4 hvd x0 x1 x2
                              go_wp2_with fail
                              refine (eq_same pa _ k pcap _ (st.drop K) w4 HP4.out HVD.out).mono ?_
                              rintro e w5 ⟨rfl, nq, rfl⟩
                              have z1 : (w4.drewN nq).cell? ⟨D, 1, none⟩ = some (.int .i64 (k : Int)) := cellOn z1 (below_draws _ _ _)
                              have HF5 : Hid (Fr p (w4.drewN nq) p m pc ls R (st.take K)) := HF4.out.later (below_draws _ _ _)
                              have HR5 : Hid (Rw w W (w4.drewN nq) p C (.slice (some ⟨g, 0, none⟩) C C) (.slice sa K sc) ls (st.take K)) := (HR4.out.later (below_draws _ _ _)).cut HS.out K i1
                              clear HF4 HR4 HP4 HVD
                              generalize w4.drewN nq = w5 at *
                              go_wp2_with fail
                              go_meet
                              case rel => exact ⟨pc, ls, st.take K, rfl, HF5, HR5⟩
                          · have CP := pop_no I HFb0.out (by rw [HS.out]; omega)
                            have dd : decide (0 ≤ I) = false ∨ (decide (0 ≤ I) = true ∧ decide (I ≤ (S : Int)) = false) := by
                              simp only [decide_eq_false_iff_not, decide_eq_true_eq]
                              omega
                            clear hI
                            rcases dd with d1 | ⟨d1, d2⟩
                            all_goals
                              go_wp2_with fail
                              refine CP.mono ?_
                              rintro e w4 ⟨rfl, rfl⟩
                              go_wp2_with fail
                              go_meet
                              case rel => exact ⟨pc, ls, st, rfl, HFb0, HRb0⟩
                      by_cases k2 : kd = 2
                      · subst k2
                        as_aux_lemma => -- ARM2
                          have hlC : ls.length = C := HRb0.out.len
                          have CL := load_any I HFb0.out
                          by_cases hI : 0 ≤ I ∧ I < (C : Int)
                          · obtain ⟨hI0, hI1⟩ := hI
                            obtain ⟨k, rfl⟩ := Int.eq_ofNat_of_zero_le hI0
                            have hk : k < C := by omega
                            have hkl : k < ls.length := by omega
                            have hh : hasL ls.length (k : Int) = true := by rw [hlC]; simp only [hasL, Bool.and_eq_true, decide_eq_true_eq]; omega
                            have hlv : loadV ls (k : Int) = ls[k] := by unfold loadV; rw [if_pos hh, Int.toNat_natCast]; simp [List.getD, hkl]
                            rw [hh, hlv] at CL
                            obtain ⟨q1, q2⟩ := cellsV_at ls k hkl
                            have z1 := HRb0.out.l.cellAt (k * 2) (by omega)
                            have z2 := HRb0.out.l.cellAt (k * 2 + 1) (by omega)
                            rw [Nat.mul_comm 2 k] at q1 q2
                            rw [q1] at z1
                            rw [q2] at z2
                            clear hh hlv q1 q2
                            generalize ls[k] = x at *
                            obtain ⟨xr, xn⟩ := x
                            dsimp only at CL z1 z2
                            have d1 : decide ((k : Int) < (C : Int)) = true := by rw [decide_eq_true_eq]; omega
                            have d2 : decide (k < C) = true := by rw [decide_eq_true_eq]; omega
                            have d3 : decide (xn = xn) = true := by simp
                            clear hkl hI0 hI1 hlC
                            go_wp2_with fail
                            refine CL.mono ?_
                            rintro e w4 ⟨rfl, b4⟩
                            clear CL
                            have ka := alloc1 w4 (.cells #[.bool xr, .int .i32 xn] 31)
                            have bn := blk_new w4 #[.bool xr, .int .i32 xn] 31
                            have e0 := two0 bn
                            have e1 := two1 bn
                            have x1 := cellOn (cellOn x1 b4) ka
                            have z1 := cellOn (cellOn z1 b4) ka
                            have z2 := cellOn (cellOn z2 b4) ka
                            have b5 := b4.trans (ka.mono b4.size)
                            have HF5 : Hid (Fr p _ p m pc ls R st) := HFb0.out.later b5
                            have HR5 : Hid (Rw w W _ p C (.slice (some ⟨g, 0, none⟩) C C) (.slice sa st.length sc) ls st) := HRb0.out.later b5
                            clear bn b4 ka b5 x0 x2
                            go_upto_region 51 with fail
                            generalize w4.alloc (.cells #[.bool xr, .int .i32 xn] 31) = w5 at *
                            generalize w4.heap.size = E at *
                            go_upto_region 52 with fail
                            cases xr
                            all_goals
                              go_quiet (fail)
                              all_goals
                                have HF6 : Hid (Fr p (w5.drewN nq) p m pc ls R st) := HF5.out.later (below_draws _ _ _)
                                have HR6 : Hid (Rw w W (w5.drewN nq) p C (.slice (some ⟨g, 0, none⟩) C C) (.slice sa st.length sc) ls st) := HR5.out.later (below_draws _ _ _)
                                go_wp2_with fail
                                go_meet
                                case rel => exact ⟨pc, ls, st, rfl, HF6, HR6⟩
                          · have hh : hasL ls.length I = false := by rw [hlC]; simp only [hasL, Bool.and_eq_false_iff, decide_eq_false_iff_not]; omega
                            have hlv : loadV ls I = ⟨false, 0⟩ := by unfold loadV; rw [hh]; rfl
                            rw [hh, hlv] at CL
                            dsimp only at CL
                            have dd : decide (0 ≤ I) = false ∨ (decide (0 ≤ I) = true ∧ decide (I < (C : Int)) = false) := by
                              simp only [decide_eq_false_iff_not, decide_eq_true_eq]
                              omega
                            clear hI hh hlv hlC
                            rcases dd with d1 | ⟨d1, d2⟩
                            all_goals
                              go_wp2_with fail
                              refine CL.mono ?_
                              rintro e w4 ⟨rfl, b4⟩
                              have ka := alloc1 w4 (.cells #[.bool false, .int .i32 0] 31)
                              have x1 := cellOn (cellOn x1 b4) ka
                              have b5 := b4.trans (ka.mono b4.size)
                              have HF5 : Hid (Fr p _ p m pc ls R st) := HFb0.out.later b5
                              have HR5 : Hid (Rw w W _ p C (.slice (some ⟨g, 0, none⟩) C C) (.slice sa st.length sc) ls st) := HRb0.out.later b5
                              clear b4 ka b5 x0 x2
                              go_upto_region 51 with fail
                              generalize w4.alloc (.cells #[.bool false, .int .i32 0] 31) = w5 at *
                              generalize w4.heap.size = E at *
                              go_upto_region 52 with fail
                              go_quiet (fail)
                              all_goals
                                have HF6 : Hid (Fr p (w5.drewN nq) p m pc ls R st) := HF5.out.later (below_draws _ _ _)
                                have HR6 : Hid (Rw w W (w5.drewN nq) p C (.slice (some ⟨g, 0, none⟩) C C) (.slice sa st.length sc) ls st) := HR5.out.later (below_draws _ _ _)
                                go_wp2_with fail
                                go_meet
                                case rel => exact ⟨pc, ls, st, rfl, HF6, HR6⟩
                      by_cases k3 : kd = 3
                      · subst k3
                        as_aux_lemma => -- ARM3
                          have hlC : ls.length = C := HRb0.out.len
                          have hvb := HVb0.out.later valE_stable HRb0.out.be
                          have hvl := (vs_len hvb).1
                          by_cases hvn : vn = 0
                          · subst hvn
                            have dd : decide (0 ≤ I) = false ∨ (decide (0 ≤ I) = true ∧ decide (I < (C : Int)) = false) ∨ (decide (0 ≤ I) = true ∧ decide (I < (C : Int)) = true) := by
                              simp only [decide_eq_false_iff_not, decide_eq_true_eq]
                              omega
                            clear hvb hvl hlC
                            rcases dd with d1 | ⟨d1, d2⟩ | ⟨d1, d2⟩
                            all_goals
                              go_upto_region 56 with fail
                              go_quiet (fail)
                              all_goals
                                have HF6 : Hid (Fr p (wb.drewN nq) p m pc ls R st) := HFb0.out.later (below_draws _ _ _)
                                have HR6 : Hid (Rw w W (wb.drewN nq) p C (.slice (some ⟨g, 0, none⟩) C C) (.slice sa st.length sc) ls st) := HRb0.out.later (below_draws _ _ _)
                                go_wp2_with fail
                                go_meet
                                case rel => exact ⟨pc, ls, st, rfl, HF6, HR6⟩
                          · have hv0 : 0 < vs.length := by omega
                            obtain ⟨vb, voff, rfl, c1, c2⟩ := vs_at hvb 0 hv0
                            have h32 := vs_32 hvb _ (List.getElem_mem hv0)
                            rw [Nat.zero_mul, Nat.add_zero] at c1 c2
                            have d3 : decide ((0 : Int) < (vn : Int)) = true := by rw [decide_eq_true_eq]; omega
                            have d4 : decide (0 < vn) = true := by rw [decide_eq_true_eq]; omega
                            have i0 : 0 < vn := by omega
                            have hvw := HVb0.out
                            obtain ⟨wb', woff, e, cw1, cw2⟩ := vs_at hvw 0 hv0
                            simp only [Option.some.injEq, Addr.mk.injEq, and_true] at e
                            obtain ⟨rfl, rfl⟩ := e
                            rw [Nat.zero_mul, Nat.add_zero] at cw1 cw2
                            have ST := store_any I vs[0] h32 (HFb0.out.later ((Below.refl wb.heap.size wb).drew))
                            have hputx : Hid (Is32 (vs[0]).n) := h32
                            clear hvb hvl hvw h32
                            generalize vs[0] = x at *
                            obtain ⟨xr, xn⟩ := x
                            dsimp only at c1 c2 cw1 cw2 ST hputx
                            by_cases hI : 0 ≤ I ∧ I < (C : Int)
                            · obtain ⟨hI0, hI1⟩ := hI
                              obtain ⟨k, rfl⟩ := Int.eq_ofNat_of_zero_le hI0
                              have hk : k < C := by omega
                              have hh : hasL ls.length (k : Int) = true := by rw [hlC]; simp only [hasL, Bool.and_eq_true, decide_eq_true_eq]; omega
                              have hsv : storeV ls (k : Int) ⟨xr, xn⟩ = ls.set k ⟨xr, xn⟩ := by unfold storeV; rw [if_pos hh, Int.toNat_natCast]
                              rw [hh, hsv] at ST
                              have d1 : decide ((k : Int) < (C : Int)) = true := by rw [decide_eq_true_eq]; omega
                              have d2 : decide (k < C) = true := by rw [decide_eq_true_eq]; omega
                              have hkl : k < ls.length := by omega
                              clear hh hsv hlC hI0 hI1
                              go_upto_region 56 with fail
                              have kr : Below wb.heap.size wb wb.drew := (Below.refl _ _).drew
                              refine wp_region_held_drew (S := fun W' => W'.cell? ⟨D, 1, none⟩ = some (.int .i64 (k : Int)) ∧ W'.cell? ⟨D, 2, none⟩ = some (.slice (some ⟨vb, voff, none⟩) vn vc) ∧ W'.cell? ⟨vb, voff, none⟩ = some (.bool xr) ∧ W'.cell? ⟨vb, voff + 1, none⟩ = some (.int .i32 xn)) (by kernel_rfl) ⟨cellOn x1 kr, cellOn x2 kr, cellOn c1 kr, cellOn c2 kr⟩ (fun hHeld => ?_)
                              refine wpAnyH_take (i := 0) (oi := ⟨some 251, _, _, _, _, _⟩) (v := ?_) rfl (by kernel_rfl) (by kernel_rfl) (by kernel_rfl) (fun _ _ _ h => h) (Or.inl ⟨by kernel_rfl, fun Wx hSw => ?_⟩) (by assumption) ?_
                              rotate_left
                              · ((try dsimp only at hSw); go_simp; try with_reducible rfl)
                              simp only [Act.put, List.setIfInBounds_toArray, List.set_cons_zero, List.set_cons_succ]
                              refine wpAnyH_take (i := 1) (oi := ⟨some 252, _, _, _, _, _⟩) (v := ?_) rfl (by kernel_rfl) (by kernel_rfl) (by kernel_rfl) (fun _ _ _ h => h) (Or.inl ⟨by kernel_rfl, fun Wx hSw => ?_⟩) (by assumption) ?_
                              rotate_left
                              · ((try dsimp only at hSw); go_simp; try with_reducible rfl)
                              simp only [Act.put, List.setIfInBounds_toArray, List.set_cons_zero, List.set_cons_succ]
                              refine wpAnyH_take (i := 2) (oi := ⟨some 253, _, _, _, _, _⟩) (v := ?_) rfl (by kernel_rfl) (by kernel_rfl) (by kernel_rfl) (fun _ _ _ h => h) (Or.inl ⟨by kernel_rfl, fun Wx hSw => ?_⟩) (by assumption) ?_
                              rotate_left
                              · ((try dsimp only at hSw); go_simp; try with_reducible rfl)
                              simp only [Act.put, List.setIfInBounds_toArray, List.set_cons_zero, List.set_cons_succ]
                              refine wpAnyH_take (i := 3) (oi := ⟨some 254, _, _, _, _, _⟩) (v := ?_) rfl (by kernel_rfl) (by kernel_rfl) (by kernel_rfl) (fun _ _ _ h => h) (Or.inl ⟨by kernel_rfl, fun Wx hSw => ?_⟩) (by assumption) ?_
                              rotate_left
                              · ((try dsimp only at hSw); go_simp; try with_reducible rfl)
                              simp only [Act.put, List.setIfInBounds_toArray, List.set_cons_zero, List.set_cons_succ]
                              refine wpAnyH_take (i := 4) (oi := ⟨some 255, _, _, _, _, _⟩) (v := ?_) rfl (by kernel_rfl) (by kernel_rfl) (by kernel_rfl) (fun _ _ _ h => h) (Or.inl ⟨by kernel_rfl, fun Wx hSw => ?_⟩) (by assumption) ?_
                              rotate_left
                              · ((try dsimp only at hSw); go_simp; try with_reducible rfl)
                              simp only [Act.put, List.setIfInBounds_toArray, List.set_cons_zero, List.set_cons_succ]
                              refine wpAnyH_take (i := 5) (oi := ⟨some 256, _, _, _, _, _⟩) (v := ?_) rfl (by kernel_rfl) (by kernel_rfl) (by kernel_rfl) (fun _ _ _ h => h) (Or.inl ⟨by kernel_rfl, fun Wx hSw => ?_⟩) (by assumption) ?_
                              rotate_left
                              · ((try dsimp only at hSw); go_simp; try with_reducible rfl)
                              simp only [Act.put, List.setIfInBounds_toArray, List.set_cons_zero, List.set_cons_succ]
                              refine wpAnyH_take (i := 6) (oi := ⟨some 257, _, _, _, _, _⟩) (v := ?_) rfl (by kernel_rfl) (by kernel_rfl) (by kernel_rfl) (fun _ _ _ h => h) (Or.inl ⟨by kernel_rfl, fun Wx hSw => ?_⟩) (by assumption) ?_
                              rotate_left
                              · ((try dsimp only at hSw); go_simp; try with_reducible rfl)
                              simp only [Act.put, List.setIfInBounds_toArray, List.set_cons_zero, List.set_cons_succ]
                              refine wpAnyH_take (i := 7) (oi := ⟨some 258, _, _, _, _, _⟩) (v := ?_) rfl (by kernel_rfl) (by kernel_rfl) (by kernel_rfl) (fun _ _ _ h => h) (Or.inl ⟨by kernel_rfl, fun Wx hSw => ?_⟩) (by assumption) ?_
                              rotate_left
                              · ((try dsimp only at hSw); go_simp; try with_reducible rfl)
                              simp only [Act.put, List.setIfInBounds_toArray, List.set_cons_zero, List.set_cons_succ]
                              refine wpAnyH_take (i := 8) (oi := ⟨some 259, _, _, _, _, _⟩) (v := ?_) rfl (by kernel_rfl) (by kernel_rfl) (by kernel_rfl) (fun _ _ _ h => h) (Or.inl ⟨by kernel_rfl, fun Wx hSw => ?_⟩) (by assumption) ?_
                              rotate_left
                              · ((try dsimp only at hSw); go_simp; try with_reducible rfl)
                              simp only [Act.put, List.setIfInBounds_toArray, List.set_cons_zero, List.set_cons_succ]
                              refine wpAnyH_take (i := 9) (oi := ⟨some 260, _, _, _, _, _⟩) (v := ?_) rfl (by kernel_rfl) (by kernel_rfl) (by kernel_rfl) (fun _ _ _ h => h) (Or.inl ⟨by kernel_rfl, fun Wx hSw => ?_⟩) (by assumption) ?_
                              rotate_left
                              · ((try dsimp only at hSw); go_simp; try with_reducible rfl)
                              simp only [Act.put, List.setIfInBounds_toArray, List.set_cons_zero, List.set_cons_succ]
                              refine wpAnyH_take (i := 10) (oi := ⟨some 261, _, _, _, _, _⟩) (v := ?_) rfl (by kernel_rfl) (by kernel_rfl) (by kernel_rfl) (fun _ _ _ h => h) (Or.inl ⟨by kernel_rfl, fun Wx hSw => ?_⟩) (by assumption) ?_
                              rotate_left
                              · ((try dsimp only at hSw); go_simp; try with_reducible rfl)
                              simp only [Act.put, List.setIfInBounds_toArray, List.set_cons_zero, List.set_cons_succ]
                              refine wpAnyH_take (i := 11) (oi := ⟨some 262, _, _, _, _, _⟩) (v := ?_) rfl (by kernel_rfl) (by kernel_rfl) (by kernel_rfl) (fun _ _ _ h => h) (Or.inl ⟨by kernel_rfl, fun Wx hSw => ?_⟩) (by assumption) ?_
                              rotate_left
                              · ((try dsimp only at hSw); go_simp; try with_reducible rfl)
                              simp only [Act.put, List.setIfInBounds_toArray, List.set_cons_zero, List.set_cons_succ]
                              refine wpAnyH_take (i := 13) (oi := ⟨some 264, _, _, _, _, _⟩) (v := ?_) rfl (by kernel_rfl) (by kernel_rfl) (by kernel_rfl) (fun _ _ _ h => h) (Or.inl ⟨by kernel_rfl, fun Wx hSw => ?_⟩) (by assumption) ?_
                              rotate_left
                              · ((try dsimp only at hSw); go_simp; try with_reducible rfl)
                              simp only [Act.put, List.setIfInBounds_toArray, List.set_cons_zero, List.set_cons_succ]
                              refine wpAnyH_ready (rs := [12]) (by kernel_rfl) (by simp) ?_
                              refine AllReadyH.cons (o := ⟨some 263, _, _, _, _, _⟩) rfl (fun K hK => ?_) AllReadyH.nil
                              go_simp
                              go_wp2_with (go_at_call 13; refine ST.mono ?_; rintro e w4 ⟨rfl, F4, o4⟩)
                              have BX4 := blk_off (blk_on HBX0.out kr) o4 HDp
                              have HF4 : Hid (Fr p w4 p m pc (ls.set k ⟨xr, xn⟩) R st) := F4
                              have HR4 : Hid (Rw w W w4 p C (.slice (some ⟨g, 0, none⟩) C C) (.slice sa st.length sc) ls st) := (HRb0.out.later kr).off (HFb0.out.later kr) o4
                              have x1 : w4.cell? ⟨D, 1, none⟩ = some (.int .i64 (k : Int)) := blk_cell BX4 1
                              have x2 : w4.cell? ⟨D, 2, none⟩ = some (.slice (some ⟨vb, voff, none⟩) vn vc) := blk_cell BX4 2
                              have c1 := cellOn cw1 HR4.out.be
                              have c2 := cellOn cw2 HR4.out.be
                              refine hK.out _ _ ⟨x1, x2, c1, c2⟩ (fun hHeld => ?_)
                              clear hK K F4 o4 BX4
                              refine wpAnyH_take (i := 14) (oi := ⟨some 265, _, _, _, _, _⟩) (v := ?_) rfl (by kernel_rfl) (by kernel_rfl) (by kernel_rfl) (fun _ _ _ h => h) (Or.inl ⟨by kernel_rfl, fun Wx hSw => ?_⟩) (by assumption) ?_
                              rotate_left
                              · ((try dsimp only at hSw); go_simp; try with_reducible rfl)
                              simp only [Act.put, List.setIfInBounds_toArray, List.set_cons_zero, List.set_cons_succ]
                              refine wpAnyH_take (i := 15) (oi := ⟨some 266, _, _, _, _, _⟩) (v := ?_) rfl (by kernel_rfl) (by kernel_rfl) (by kernel_rfl) (fun _ _ _ h => h) (Or.inl ⟨by kernel_rfl, fun Wx hSw => ?_⟩) (by assumption) ?_
                              rotate_left
                              · ((try dsimp only at hSw); go_simp; try with_reducible rfl)
                              simp only [Act.put, List.setIfInBounds_toArray, List.set_cons_zero, List.set_cons_succ]
                              refine wpAnyH_done (by kernel_rfl) ?_ _
                              obtain ⟨q1, q2⟩ := cellsV_at ls k hkl
                              have z1 := HR4.out.l.cellAt (k * 2) (by omega)
                              have z2 := HR4.out.l.cellAt (k * 2 + 1) (by omega)
                              rw [Nat.mul_comm 2 k] at q1 q2
                              rw [q1] at z1
                              rw [q2] at z2
                              have f1 := HR4.out.l.frozenAt (k * 2)
                              have f2 := HR4.out.l.frozenAt (k * 2 + 1)
                              have hgp : g ≠ p := fun e => fr_own_ne HF4.out HR4.out.l (by decide) (by rw [e]; rfl)
                              have HF5 : Hid (Fr _ _ _ _ _ _ _ _) := HF4.out.put hgp (k * 2) (k * 2 + 1) (.bool xr) (.int .i32 xn)
                              have HR5 : Hid (Rw _ _ _ _ _ _ _ _ _) := HR4.out.put k hk ⟨xr, xn⟩
                              clear q1 q2 hgp HF4 HR4
                              generalize ls[k] = y at *
                              clear hkl
                              clear x0 cw1 cw2 hHeld
                              go_upto_region 59 with fail
                              go_region
                              all_goals
                                go_wp2_with fail
                                go_meet
                                case rel => first | exact ⟨pc, _, st, rfl, HF5, HR5⟩ | exact ⟨pc, _, st, rfl, HF5.out.drew, HR5.out.drew⟩
                            · have hh : hasL ls.length I = false := by rw [hlC]; simp only [hasL, Bool.and_eq_false_iff, decide_eq_false_iff_not]; omega
                              have hsv : storeV ls I ⟨xr, xn⟩ = ls := by unfold storeV; rw [hh]; rfl
                              rw [hh, hsv] at ST
                              have dd : decide (0 ≤ I) = false ∨ (decide (0 ≤ I) = true ∧ decide (I < (C : Int)) = false) := by
                                simp only [decide_eq_false_iff_not, decide_eq_true_eq]
                                omega
                              clear hh hsv hlC hI
                              rcases dd with d1 | ⟨d1, d2⟩
                              all_goals
                                go_upto_region 56 with fail
                                have kr : Below wb.heap.size wb wb.drew := (Below.refl _ _).drew
                                refine wp_region_held_drew (S := fun W' => W'.cell? ⟨D, 1, none⟩ = some (.int .i64 I) ∧ W'.cell? ⟨D, 2, none⟩ = some (.slice (some ⟨vb, voff, none⟩) vn vc) ∧ W'.cell? ⟨vb, voff, none⟩ = some (.bool xr) ∧ W'.cell? ⟨vb, voff + 1, none⟩ = some (.int .i32 xn)) (by kernel_rfl) ⟨cellOn x1 kr, cellOn x2 kr, cellOn c1 kr, cellOn c2 kr⟩ (fun hHeld => ?_)
                                refine wpAnyH_take (i := 0) (oi := ⟨some 251, _, _, _, _, _⟩) (v := ?_) rfl (by kernel_rfl) (by kernel_rfl) (by kernel_rfl) (fun _ _ _ h => h) (Or.inl ⟨by kernel_rfl, fun Wx hSw => ?_⟩) (by assumption) ?_
                                rotate_left
                                · ((try dsimp only at hSw); go_simp; try with_reducible rfl)
                                simp only [Act.put, List.setIfInBounds_toArray, List.set_cons_zero, List.set_cons_succ]
                                refine wpAnyH_take (i := 1) (oi := ⟨some 252, _, _, _, _, _⟩) (v := ?_) rfl (by kernel_rfl) (by kernel_rfl) (by kernel_rfl) (fun _ _ _ h => h) (Or.inl ⟨by kernel_rfl, fun Wx hSw => ?_⟩) (by assumption) ?_
                                rotate_left
                                · ((try dsimp only at hSw); go_simp; try with_reducible rfl)
                                simp only [Act.put, List.setIfInBounds_toArray, List.set_cons_zero, List.set_cons_succ]
                                refine wpAnyH_take (i := 2) (oi := ⟨some 253, _, _, _, _, _⟩) (v := ?_) rfl (by kernel_rfl) (by kernel_rfl) (by kernel_rfl) (fun _ _ _ h => h) (Or.inl ⟨by kernel_rfl, fun Wx hSw => ?_⟩) (by assumption) ?_
                                rotate_left
                                · ((try dsimp only at hSw); go_simp; try with_reducible rfl)
                                simp only [Act.put, List.setIfInBounds_toArray, List.set_cons_zero, List.set_cons_succ]
                                refine wpAnyH_take (i := 3) (oi := ⟨some 254, _, _, _, _, _⟩) (v := ?_) rfl (by kernel_rfl) (by kernel_rfl) (by kernel_rfl) (fun _ _ _ h => h) (Or.inl ⟨by kernel_rfl, fun Wx hSw => ?_⟩) (by assumption) ?_
                                rotate_left
                                · ((try dsimp only at hSw); go_simp; try with_reducible rfl)
                                simp only [Act.put, List.setIfInBounds_toArray, List.set_cons_zero, List.set_cons_succ]
                                refine wpAnyH_take (i := 4) (oi := ⟨some 255, _, _, _, _, _⟩) (v := ?_) rfl (by kernel_rfl) (by kernel_rfl) (by kernel_rfl) (fun _ _ _ h => h) (Or.inl ⟨by kernel_rfl, fun Wx hSw => ?_⟩) (by assumption) ?_
                                rotate_left
                                · ((try dsimp only at hSw); go_simp; try with_reducible rfl)
                                simp only [Act.put, List.setIfInBounds_toArray, List.set_cons_zero, List.set_cons_succ]
                                refine wpAnyH_take (i := 5) (oi := ⟨some 256, _, _, _, _, _⟩) (v := ?_) rfl (by kernel_rfl) (by kernel_rfl) (by kernel_rfl) (fun _ _ _ h => h) (Or.inl ⟨by kernel_rfl, fun Wx hSw => ?_⟩) (by assumption) ?_
                                rotate_left
                                · ((try dsimp only at hSw); go_simp; try with_reducible rfl)
                                simp only [Act.put, List.setIfInBounds_toArray, List.set_cons_zero, List.set_cons_succ]
                                refine wpAnyH_take (i := 6) (oi := ⟨some 257, _, _, _, _, _⟩) (v := ?_) rfl (by kernel_rfl) (by kernel_rfl) (by kernel_rfl) (fun _ _ _ h => h) (Or.inl ⟨by kernel_rfl, fun Wx hSw => ?_⟩) (by assumption) ?_
                                rotate_left
                                · ((try dsimp only at hSw); go_simp; try with_reducible rfl)
                                simp only [Act.put, List.setIfInBounds_toArray, List.set_cons_zero, List.set_cons_succ]
                                refine wpAnyH_take (i := 7) (oi := ⟨some 258, _, _, _, _, _⟩) (v := ?_) rfl (by kernel_rfl) (by kernel_rfl) (by kernel_rfl) (fun _ _ _ h => h) (Or.inl ⟨by kernel_rfl, fun Wx hSw => ?_⟩) (by assumption) ?_
                                rotate_left
                                · ((try dsimp only at hSw); go_simp; try with_reducible rfl)
                                simp only [Act.put, List.setIfInBounds_toArray, List.set_cons_zero, List.set_cons_succ]
                                refine wpAnyH_take (i := 8) (oi := ⟨some 259, _, _, _, _, _⟩) (v := ?_) rfl (by kernel_rfl) (by kernel_rfl) (by kernel_rfl) (fun _ _ _ h => h) (Or.inl ⟨by kernel_rfl, fun Wx hSw => ?_⟩) (by assumption) ?_
                                rotate_left
                                · ((try dsimp only at hSw); go_simp; try with_reducible rfl)
                                simp only [Act.put, List.setIfInBounds_toArray, List.set_cons_zero, List.set_cons_succ]
                                refine wpAnyH_take (i := 9) (oi := ⟨some 260, _, _, _, _, _⟩) (v := ?_) rfl (by kernel_rfl) (by kernel_rfl) (by kernel_rfl) (fun _ _ _ h => h) (Or.inl ⟨by kernel_rfl, fun Wx hSw => ?_⟩) (by assumption) ?_
                                rotate_left
                                · ((try dsimp only at hSw); go_simp; try with_reducible rfl)
                                simp only [Act.put, List.setIfInBounds_toArray, List.set_cons_zero, List.set_cons_succ]
                                refine wpAnyH_take (i := 10) (oi := ⟨some 261, _, _, _, _, _⟩) (v := ?_) rfl (by kernel_rfl) (by kernel_rfl) (by kernel_rfl) (fun _ _ _ h => h) (Or.inl ⟨by kernel_rfl, fun Wx hSw => ?_⟩) (by assumption) ?_
                                rotate_left
                                · ((try dsimp only at hSw); go_simp; try with_reducible rfl)
                                simp only [Act.put, List.setIfInBounds_toArray, List.set_cons_zero, List.set_cons_succ]
                                refine wpAnyH_take (i := 11) (oi := ⟨some 262, _, _, _, _, _⟩) (v := ?_) rfl (by kernel_rfl) (by kernel_rfl) (by kernel_rfl) (fun _ _ _ h => h) (Or.inl ⟨by kernel_rfl, fun Wx hSw => ?_⟩) (by assumption) ?_
                                rotate_left
                                · ((try dsimp only at hSw); go_simp; try with_reducible rfl)
                                simp only [Act.put, List.setIfInBounds_toArray, List.set_cons_zero, List.set_cons_succ]
                                refine wpAnyH_take (i := 13) (oi := ⟨some 264, _, _, _, _, _⟩) (v := ?_) rfl (by kernel_rfl) (by kernel_rfl) (by kernel_rfl) (fun _ _ _ h => h) (Or.inl ⟨by kernel_rfl, fun Wx hSw => ?_⟩) (by assumption) ?_
                                rotate_left
                                · ((try dsimp only at hSw); go_simp; try with_reducible rfl)
                                simp only [Act.put, List.setIfInBounds_toArray, List.set_cons_zero, List.set_cons_succ]
                                refine wpAnyH_ready (rs := [12]) (by kernel_rfl) (by simp) ?_
                                refine AllReadyH.cons (o := ⟨some 263, _, _, _, _, _⟩) rfl (fun K hK => ?_) AllReadyH.nil
                                go_simp
                                go_wp2_with (go_at_call 13; refine ST.mono ?_; rintro e w4 ⟨rfl, F4, o4⟩)
                                have BX4 := blk_off (blk_on HBX0.out kr) o4 HDp
                                have HF4 : Hid (Fr p w4 p m pc ls R st) := F4
                                have HR4 : Hid (Rw w W w4 p C (.slice (some ⟨g, 0, none⟩) C C) (.slice sa st.length sc) ls st) := (HRb0.out.later kr).off (HFb0.out.later kr) o4
                                have x1 : w4.cell? ⟨D, 1, none⟩ = some (.int .i64 I) := blk_cell BX4 1
                                have x2 : w4.cell? ⟨D, 2, none⟩ = some (.slice (some ⟨vb, voff, none⟩) vn vc) := blk_cell BX4 2
                                have c1 := cellOn cw1 HR4.out.be
                                have c2 := cellOn cw2 HR4.out.be
                                refine hK.out _ _ ⟨x1, x2, c1, c2⟩ (fun hHeld => ?_)
                                clear hK K F4 o4 BX4
                                refine wpAnyH_take (i := 14) (oi := ⟨some 265, _, _, _, _, _⟩) (v := ?_) rfl (by kernel_rfl) (by kernel_rfl) (by kernel_rfl) (fun _ _ _ h => h) (Or.inl ⟨by kernel_rfl, fun Wx hSw => ?_⟩) (by assumption) ?_
                                rotate_left
                                · ((try dsimp only at hSw); go_simp; try with_reducible rfl)
                                simp only [Act.put, List.setIfInBounds_toArray, List.set_cons_zero, List.set_cons_succ]
                                refine wpAnyH_take (i := 15) (oi := ⟨some 266, _, _, _, _, _⟩) (v := ?_) rfl (by kernel_rfl) (by kernel_rfl) (by kernel_rfl) (fun _ _ _ h => h) (Or.inl ⟨by kernel_rfl, fun Wx hSw => ?_⟩) (by assumption) ?_
                                rotate_left
                                · ((try dsimp only at hSw); go_simp; try with_reducible rfl)
                                simp only [Act.put, List.setIfInBounds_toArray, List.set_cons_zero, List.set_cons_succ]
                                refine wpAnyH_done (by kernel_rfl) ?_ _
                                clear hHeld cw1 cw2
                                go_wp2_with fail
                                go_meet
                                case rel => exact ⟨pc, ls, st, rfl, HF4, HR4⟩
                      by_cases k4 : kd = 4
                      · subst k4
                        as_aux_lemma => -- ARM4
                          go_wp2_with fail
                          refine (clear_any HFb0.out).mono ?_
                          rintro e w4 ⟨rfl, F4, o4⟩
                          have HF4 : Hid (Fr p w4 p m pc ls R []) := F4
                          have HR4 : Hid (Rw w W w4 p C (.slice (some ⟨g, 0, none⟩) C C) (.slice none 0 0) ls []) := (HRb0.out.off HFb0.out o4).nil
                          clear F4 o4
                          go_wp2_with fail
                          go_meet
                          case rel => exact ⟨pc, ls, [], rfl, HF4, HR4⟩
                      as_aux_lemma => -- ARM5
                        have q0 : decide (kd = 0) = false := by rw [decide_eq_false_iff_not]; exact k0
                        have q1 : decide (kd = 1) = false := by rw [decide_eq_false_iff_not]; exact k1
                        have q2 : decide (kd = 2) = false := by rw [decide_eq_false_iff_not]; exact k2
                        have q3 : decide (kd = 3) = false := by rw [decide_eq_false_iff_not]; exact k3
                        have q4 : decide (kd = 4) = false := by rw [decide_eq_false_iff_not]; exact k4
                        have r0 : (kd == 0) = false := by rw [beq_eq_false_iff_ne]; exact k0
                        have r1 : (kd == 1) = false := by rw [beq_eq_false_iff_ne]; exact k1
                        have r2 : (kd == 2) = false := by rw [beq_eq_false_iff_ne]; exact k2
                        have r3 : (kd == 3) = false := by rw [beq_eq_false_iff_ne]; exact k3
                        have r4 : (kd == 4) = false := by rw [beq_eq_false_iff_ne]; exact k4
                        go_wp2_with fail
                        refine (goto_any I HFb0.out).mono ?_
                        rintro e w4 ⟨rfl, F4, o4⟩
                        have HF4 : Hid (Fr p w4 p m I ls R st) := F4
                        have HR4 : Hid (Rw w W w4 p C (.slice (some ⟨g, 0, none⟩) C C) (.slice sa st.length sc) ls st) := HRb0.out.off HFb0.out o4
                        have z1 : w4.cell? ⟨D, 1, none⟩ = some (.int .i64 I) := blk_cell (blk_off HBX0.out o4 HDp) 1
                        clear F4 o4 x0 x1 x2
                        go_wp2_with fail
                        go_meet
                        case rel => exact ⟨I, ls, st, rfl, HF4, HR4⟩
                    case rest =>
                      as_aux_lemma => -- CHK
                        obtain ⟨pc', ls', st', rfl, HF', HR'⟩ := hcut
                        clear HBX0 HFb0 HRb0 HVb0
                        obtain ⟨sa, sc, rfl⟩ := own_sl HR'.out.s
                        have CD := depth_any HF'.out
                        have CP := pc_any HF'.out
                        have CM := method_any HF'.out
                        have hS16 : st'.length ≤ 16 := by have := HF'.out.len; omega
                        have CR := lrefs_true HF'.out _ _ C C st'.length sc ls' st' (own_vs HR'.out.l HF'.out.l32).1 (own_vs HR'.out.s HF'.out.s32).1 (by omega) (by omega) rfl
                        apply_assumption
                        go_wp2_with fail
                        refine CD.mono ?_
                        rintro e w' ⟨rfl, rfl⟩
                        go_wp2_with fail
                        refine CP.mono ?_
                        rintro e w' ⟨rfl, rfl⟩
                        go_wp2_with fail
                        refine CM.mono ?_
                        rintro e w' ⟨rfl, rfl⟩
                        go_wp2_with fail
                        refine CR.mono ?_
                        rintro e w4 ⟨rfl, b4⟩
                        have HF4 : Hid (Fr p w4 p m pc' ls' R st') := HF'.out.later b4
                        have HR4 : Hid (Rw w W w4 p C (.slice (some ⟨g, 0, none⟩) C C) (.slice sa st'.length sc) ls' st') := HR'.out.later b4
                        clear CD CP CM CR HF' HR' b4
                        go_wp2_with fail
                        go_roundw
                        case rel =>
                          first
                          | exact ⟨j + 1, pc', ls', st', by go_num, by omega, by omega, rfl, HF4, HR4⟩
                          | ((repeat apply Exists.intro); exact ⟨⟨j + 1, pc', ls', st', by go_num, by omega, by omega, rfl, HF4, HR4⟩, rfl⟩)
                        case measure => simp [intOf]; omega
                · as_aux_lemma => -- OUT
                    have hbe := HR.out.be
                    have hd : (decide ((j : Int) < (n4 : Int)) = false ∧ decide (j < n4) = false) ∨ (decide ((j : Int) < (n4 : Int)) = true ∧ decide (j < n4) = true ∧ decide ((j : Int) < 50) = false ∧ decide (j < 50) = false) := by
                      simp only [decide_eq_false_iff_not, decide_eq_true_eq]
                      omega
                    clear hin
                    rcases hd with ⟨d1, d2⟩ | ⟨d1, d2, d3, d4⟩
                    all_goals
                      go_wp2_with fail
                      go_ret
                      exact ⟨rfl, hbe⟩


/-! ### The row -/
theorem own : ownKnob Try.prog.godebug = none := by kernel_rfl
theorem laidOut : laidOutB Try.prog = true := by kernel_rfl
set_option maxRecDepth 100000 in
theorem lifted (os : Os) (started : os.Started) (H : Type) (enc : TypeId × Value → H) :
    ReturnsInHanded {} Try.checked os 3 .any (Rows.frameAllSpec.pre6 enc Try.prog Try.f3 Rows.frameAllRow.domain false) (Rows.frameAllSpec.post enc Try.prog Try.f3 false true false false) := by
  refine returnsInHanded_of_change (C := Try.checked) own started (by kernel_rfl) Try.func3
    (ChangeSpec.witness6 (enc := enc) (C := Try.checked) false ⟨#[], #[.int .i64 0, .int .i64 0, .int .i64 0, .slice none 0 0, .slice none 0 0], []⟩ 8 (by kernel_rfl) (by kernel_rfl) (by kernel_rfl) (by kernel_rfl)) ?_
  intro W base args ds gs before hval0 hW hcnd _
  have hval : ∀ (j : Nat) t v, Try.f3.params[j]? = some t → args[j]? = some v → Value.okWide Try.prog W .any base t v := hval0
  have hW' := hW
  obtain ⟨p, q, hA0, hV, rfl, hfz, hnd⟩ := hW
  have hA : DataW.TrodAll enc Try.prog W 0 (fun _ => true) true Try.f3.params.toList args.toList ds p := hA0
  rw [Try.params3] at hA hval
  obtain ⟨v0, vs0, d0, ds0, p0, q0, hargs, rfl, rfl, h0, r0⟩ := trodAll_cons hA
  obtain ⟨v1, vs1, d1, ds1, p1, q1, rfl, rfl, rfl, h1, r1⟩ := trodAll_cons r0
  obtain ⟨v2, vs2, d2, ds2, p2, q2, rfl, rfl, rfl, h2, r2⟩ := trodAll_cons r1
  obtain ⟨v3, vs3, d3, ds3, p3, q3, rfl, rfl, rfl, h3, r3⟩ := trodAll_cons r2
  obtain ⟨v4, vs4, d4, ds4, p4, q4, rfl, rfl, rfl, h4, r4⟩ := trodAll_cons r3
  obtain ⟨rfl, rfl, rfl⟩ := trodAll_nil r4
  obtain rfl : args = #[v0, v1, v2, v3, v4] := by cases args; simp_all
  obtain ⟨rfl, rfl⟩ := trodVars_none hV
  obtain ⟨a0, rfl, rfl, rfl, w0⟩ := open_int Try.underlying3 (hval 0 3 v0 rfl rfl) h0
  obtain ⟨a1, rfl, rfl, rfl, w1⟩ := open_int Try.underlying3 (hval 1 3 v1 rfl rfl) h1
  obtain ⟨a2, rfl, rfl, rfl, w2⟩ := open_int Try.underlying3 (hval 2 3 v2 rfl rfl) h2
  obtain ⟨a3, len3, cap3, rfl⟩ := okWide_slice Try.underlying22 (hval 3 22 v3 rfl rfl)
  have k3 := h3
  have lt3 : ∀ x ∈ p3, x.block < W.heap.size := by obtain ⟨m, hm⟩ := k3; exact DataW.trod_lt m _ _ _ hm
  obtain ⟨z3, w3⟩ : ∃ L, Sl valE 2 W (.slice a3 len3 cap3) L := by
    obtain ⟨fuel, hf⟩ := h3
    obtain ⟨v, L, e, hL⟩ := open_vs hf
    simp [Value.cells] at e
    subst e
    exact ⟨L, hL⟩
  obtain ⟨a4, len4, cap4, rfl⟩ := okWide_slice Try.underlying23 (hval 4 23 v4 rfl rfl)
  have k4 := h4
  have lt4 : ∀ x ∈ p4, x.block < W.heap.size := by obtain ⟨m, hm⟩ := k4; exact DataW.trod_lt m _ _ _ hm
  obtain ⟨z4, w4⟩ : ∃ L, Sl opE 3 W (.slice a4 len4 cap4) L := by
    obtain ⟨fuel, hf⟩ := h4
    obtain ⟨v, L, e, hL⟩ := open_ops hf
    simp [Value.cells] at e
    subst e
    exact ⟨L, hL⟩
  clear hA0 hval0
  refine (walk a0 a1 a2 a3 len3 cap3 z3 a4 len4 cap4 z4 W w0 w1 w2 w3 w4).mono fun e W' ⟨he, bel⟩ => ?_
  subst he
  exact ⟨_, rfl, _, _, _, [], _, [], hW', trodAll_mk1 (shut_bool Try.underlying4 _), (trodAll_cons_mk (shut_int Try.underlying3 w0) (trodAll_cons_mk (shut_int Try.underlying3 w1) (trodAll_cons_mk (shut_int Try.underlying3 w2) (trodAll_cons_mk (Below.trod laidOut (by kernel_rfl) (of_decide_eq_true (by kernel_rfl)) k3 bel lt3) (trodAll_cons_mk (Below.trod laidOut (by kernel_rfl) (of_decide_eq_true (by kernel_rfl)) k4 bel lt4) trodAll_mk0))))), rfl, bel.frame _, fun h => by cases h⟩

theorem over : Rows.frameAllRow.holds Try.pinned (OpenSpec.ofChange Rows.frameAllSpec) :=
  OpenClaim.holds_of_wide 3 Try.f3 rfl rfl rfl rfl rfl rfl rfl ⟨rfl, rfl, rfl, rfl, rfl⟩ rfl rfl rfl rfl rfl (by kernel_rfl) Try.func3 (by kernel_rfl)
    (of_decide_eq_true (by kernel_rfl)) (by unfold Func.isWrapper; first | (rw [if_pos (by decide +kernel)]; kernel_rfl) | (rw [if_neg (by decide +kernel)]; exact ⟨rfl, rfl⟩))
    (fun os started H enc _ => lifted os started H enc)

end FrameAll

theorem frameAll_holds : Rows.FrameAllSaid := FrameAll.over
#print axioms frameAll_holds
end Go.Proofs.Ytjlobkohkfcbpaa
