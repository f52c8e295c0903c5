/- For every five numbers the law ClassLimits answers true: as many fields, methods, parameters, instructions and traps as there may be may be, and not one more; no condition on the input. -/
import Derived.Test.YtbfcjflgomedgaaClassLimitsA
import Derived.Test.YtbfcjflgomedgaaClassLimitsC
import Derived.WalkKit
import Derived.ProofKit
import Derived.OpenShut
import Derived.ShutString
import Derived.ChangeOld
import Derived.Below
namespace Go.Proofs.Ytbfcjflgomedgaa
namespace ClassLimits
open Num Kind Op4 Cls
open Go.ChangeShapes Go.WideShapes Go.ChangeAt Go.RowKit
open Go.ChangeMaps (open_string shut_string)
set_option linter.unusedVariables false
set_option linter.unusedSimpArgs false
set_option maxRecDepth 100000

theorem news_lit (w : World) (cs : List Value) (T : Nat) : ∀ j u, cs[j]? = some u → (w.alloc (.cells cs.toArray T)).cell? ((⟨w.heap.size, 0, none⟩ : Addr).add j) = some u := by
  intro j u h
  rw [Addr.add_lit, Nat.zero_add, cell_new]
  simpa using h
theorem oneCF (k : Nat) : ∀ u ∈ fcells k, u.oneCell' = true := by
  intro u hu
  simp only [fcells, List.mem_cons, List.not_mem_nil, or_false] at hu
  rcases hu with rfl | rfl | rfl <;> rfl
theorem oneCS : ∀ u ∈ s1, u.oneCell' = true := by
  intro u hu
  simp only [s1, List.mem_cons, List.not_mem_nil, or_false] at hu
  subst hu
  rfl
theorem oneCI : ∀ u ∈ i4, u.oneCell' = true := by
  intro u hu
  simp only [i4, List.mem_cons, List.not_mem_nil, or_false] at hu
  rcases hu with rfl | rfl | rfl | rfl <;> rfl
theorem oneCT : ∀ u ∈ t4, u.oneCell' = true := by
  intro u hu
  simp only [t4, List.mem_cons, List.not_mem_nil, or_false] at hu
  rcases hu with rfl | rfl | rfl | rfl <;> rfl
theorem own_one {w : World} {base e size n : Nat} {v : Value} {xs : List Value} (h : w.ownsRow base e size v n xs) : v.oneCell' = true := by
  rcases h.2 with ⟨rfl, _⟩ | ⟨g, cap, cur, rfl, _⟩ <;> rfl
theorem oneCM (np k : Nat) (t : V3) (h1 : t.1.oneCell' = true) (h2 : t.2.1.oneCell' = true) (h3 : t.2.2.oneCell' = true) : ∀ u ∈ mcells np k t, u.oneCell' = true := by
  intro u hu
  simp only [mcells, List.mem_cons, List.not_mem_nil, or_false] at hu
  rcases hu with rfl | rfl | rfl | rfl | rfl | rfl | rfl | rfl | rfl | rfl <;> first | rfl | assumption
theorem strF (p : Int) (k : Nat) (w : World) : (convert 28 9 (.slice (some ⟨w.heap.size, 0, none⟩) 2 2)).run Try.prog (w.alloc (.cells #[.int .u8 p, .int .u8 (48 + k)] 5)) = .ok (.string (nmS p k)) (w.alloc (.cells #[.int .u8 p, .int .u8 (48 + k)] 5)) :=
  (Has.lit w [p, 48 + (k : Int)] (by simp [maxLen])).str

set_option maxHeartbeats 16000000 in
theorem near (nf nm np nc nt : Nat) (w : World) (f1 : nf ≤ 10) (m1 : nm ≤ 10) (p1 : np ≤ 8) (c0 : 1 ≤ nc) (c1 : nc ≤ 104) (t1 : nt ≤ 8) :
    Calls Try.prog 3 #[.int .i64 nf, .int .i64 nm, .int .i64 np, .int .i64 nc, .int .i64 nt] w fun e w' => e = .returned (.bool true) ∧ Below w.heap.size w w' := by
  obtain ⟨iF, hiF, hzF0, hzF1, hzF2⟩ := info_parts infoF
  obtain ⟨iS, hiS, hzS0, hzS1, hzS2⟩ := info_parts infoS
  obtain ⟨iI, hiI, hzI0, hzI1, hzI2⟩ := info_parts infoI
  obtain ⟨iT, hiT, hzT0, hzT1, hzT2⟩ := info_parts infoT
  obtain ⟨iM, hiM, hzM0, hzM1, hzM2⟩ := info_parts infoM
  have HMAY : Hid _ := lim_may nf nm np nc nt f1 m1 p1 c0
  have d0 : decide ((nf : Int) < 0) = false := by simp
  have d1 : decide (10 < (nf : Int)) = false := by simp; omega
  have d2 : decide ((nm : Int) < 0) = false := by simp
  have d3 : decide (10 < (nm : Int)) = false := by simp; omega
  have d4 : decide ((np : Int) < 0) = false := by simp
  have d5 : decide (8 < (np : Int)) = false := by simp; omega
  have d6 : decide ((nc : Int) < 1) = false := by simp; omega
  have d7 : decide (104 < (nc : Int)) = false := by simp; omega
  have d8 : decide ((nt : Int) < 0) = false := by simp
  have d9 : decide (8 < (nt : Int)) = false := by simp; omega
  go_enter Try.func3, Try.ntmps3
  go_wp2_with fail
  refine (Cls.begun_any _).mono ?_
  rintro e w1 ⟨rfl, e1⟩
  go_upto_region 6 with fail
  clear d0 d1 d2 d3 d4 d5 d6 d7 d8 d9
  have BK := blk_new w1 #[.string ⟨#[65, 98]⟩, .string ⟨#[79, 98, 106, 101, 99, 116]⟩, .bool false, .slice none 0 0, .slice none 0 0, .slice none 0 0] 27
  have e2 := alloc1 w1 (.cells #[.string ⟨#[65, 98]⟩, .string ⟨#[79, 98, 106, 101, 99, 116]⟩, .bool false, .slice none 0 0, .slice none 0 0, .slice none 0 0] 27)
  go_wp2_with fail
  go_loopw [13] (fun i wr => ∃ (k : Nat) (v4 : Value), k ≤ nf ∧ i = .int .i64 k ∧ wr.heap[w1.heap.size]? = some (.cells #[.string ⟨#[65, 98]⟩, .string ⟨#[79, 98, 106, 101, 99, 116]⟩, .bool false, .slice none 0 0, v4, .slice none 0 0] 27 (0, 0)) ∧ wr.ownsRow (w1.heap.size + 1) 30 3 v4 k (cellsF k) ∧ Below w1.heap.size w1 wr) (fun i _ => nf - (intOf i).toNat)
  case atStart => exact ⟨0, _, by omega, rfl, BK, World.ownsRow_nil _ _ _ _, e2⟩
  case round =>
    clear BK e2
    obtain ⟨k, v4, hk, rfl, BK, own, hbel⟩ := hrel
    by_cases hlk : k < nf
    case pos =>
      have x4 := blk_cell BK 4
      simp only [List.getElem?_toArray, List.getElem?_cons_zero, List.getElem?_cons_succ] at x4
      have h64 : IntKind.i64.wrap (48 + (k : Int)) = 48 + (k : Int) := IntWalk.i64_in _ (by omega)
      have h8 : IntKind.u8.wrap (48 + (k : Int)) = 48 + (k : Int) := IntWalk.u8_in _ (by omega)
      have hst := strF 102 k wr
      have own2 := (own.alloc (.cells #[.int .u8 102, .int .u8 (48 + k)] 5)).alloc (.cells #[.string (nmS 102 k), .string ⟨#[73]⟩, .bool false] 30)
      have hnews := news_lit (wr.alloc (.cells #[.int .u8 102, .int .u8 (48 + k)] 5)) (fcells k) 30
      rw [alloc_size] at hnews
      have f1' := alloc1 wr (.cells #[.int .u8 102, .int .u8 (48 + k)] 5)
      have f2' := f1'.alloc f1'.size (.cells #[.string (nmS 102 k), .string ⟨#[73]⟩, .bool false] 30)
      have BK2 := blk_on BK f2'
      have k2 := hbel.trans (f2'.mono hbel.size)
      have hne : some w1.heap.size ≠ v4.ownBlock := fun e => by have := (own.lt _ e.symm).1; omega
      have hB0 : w1.heap.size + 1 ≤ wr.heap.size := lt_of_block BK
      have hB1 := Nat.le_trans hB0 f2'.size
      have hlow := fun g e => Nat.le_trans (Nat.le_succ _) (own.lt g e).1
      go_wp2_with (at_builtin; refine wpList_append_lies _ rfl (.tmp 68) (.tmp 75) 24 rfl (w1.heap.size + 1) 30 iF (.agg #[.string ⟨#[]⟩, .string ⟨#[]⟩, .bool false]) 3 40 Try.underlying24 hiF hzF0 hzF1 hzF2 rfl (by decide) _ k (cellsF k) rfl own2 ⟨wr.heap.size + 1, 0, none⟩ 1 1 (fcells k) rfl rfl hnews (oneCF k) (by decide) (by unfold maxLen; omega) (by omega) hB1 _ rfl ?_; intro g' cap' w4 own4 g4 hat hlt; have BK4 := blk_grown BK2 g4 hne; have z4 := blk_cell BK4 4; have z4' := blk_free BK4 4; simp only [List.getElem?_toArray, List.getElem?_cons_zero, List.getElem?_cons_succ] at z4)
      have BK5 : (w4.setCell ⟨w1.heap.size, 4, none⟩ (.slice (some ⟨g', 0, none⟩) (k + 1) cap')).heap[w1.heap.size]? = some (.cells #[.string ⟨#[65, 98]⟩, .string ⟨#[79, 98, 106, 101, 99, 116]⟩, .bool false, .slice none 0 0, .slice (some ⟨g', 0, none⟩) (k + 1) cap', .slice none 0 0] 27 (0, 0)) := blk_set BK4 4 _
      have own5 := ownsRow_setCell_below own4 (a := ⟨w1.heap.size, 4, none⟩) (Nat.lt_succ_self _) (.slice (some ⟨g', 0, none⟩) (k + 1) cap')
      have bel5 := (k2.grown g4 (Nat.le_trans (Nat.le_succ _) hB1) hlow).setCell (p := ⟨w1.heap.size, 4, none⟩) (Nat.le_refl _) (.slice (some ⟨g', 0, none⟩) (k + 1) cap')
      go_roundw
      case rel => exact ⟨k + 1, _, by omega, by go_num, BK5, own5, bel5⟩
      case measure => simp [intOf]; omega
    obtain rfl : nf = k := by omega
    go_wp2_with fail
    go_loopw [14] (fun i wr => ∃ (k2 : Nat) (v5 : Value) (TL : List V3), k2 ≤ nm ∧ i = .int .i64 k2 ∧ TL.length = k2 ∧ wr.heap[w1.heap.size]? = some (.cells #[.string ⟨#[65, 98]⟩, .string ⟨#[79, 98, 106, 101, 99, 116]⟩, .bool false, .slice none 0 0, v4, v5] 27 (0, 0)) ∧ wr.ownsRow (w1.heap.size + 1) 30 3 v4 nf (cellsF nf) ∧ wr.ownsRow (w1.heap.size + 1) 35 10 v5 k2 (cellsM np 0 TL) ∧ (∀ t ∈ TL, InnerOK wr (w1.heap.size + 1) np nc nt t) ∧ Below w1.heap.size w1 wr) (fun i _ => nm - (intOf i).toNat)
    case atStart => exact ⟨0, _, [], by omega, rfl, rfl, BK, own, World.ownsRow_nil _ _ _ _, fun t ht => (by cases ht), hbel⟩
    case round =>
      clear BK own hbel hlk hk
      obtain ⟨k2, v5, TL, hk2, rfl, hTL, BK, ownF, ownM, hIN, hbel⟩ := hrel
      rename World => wo
      have HIN : Hid _ := hIN
      have HTL : Hid _ := hTL
      clear hIN hTL
      have hB0 : w1.heap.size + 1 ≤ wo.heap.size := lt_of_block BK
      by_cases hlk : k2 < nm
      case pos =>
        have h64 : IntKind.i64.wrap (48 + (k2 : Int)) = 48 + (k2 : Int) := IntWalk.i64_in _ (by omega)
        have h8 : IntKind.u8.wrap (48 + (k2 : Int)) = 48 + (k2 : Int) := IntWalk.u8_in _ (by omega)
        have hst := strF 109 k2 wo
        have BM := blk_new (wo.alloc (.cells #[.int .u8 109, .int .u8 (48 + k2)] 5)) #[.string (nmS 109 k2), .slice none 0 0, .string ⟨#[86]⟩, .bool true, .bool false, .int .i64 np, .int .i64 0, .slice none 0 0, .slice none 0 0, .slice none 0 0] 35
        rw [alloc_size] at BM
        have fa := alloc1 wo (.cells #[.int .u8 109, .int .u8 (48 + k2)] 5)
        have fb := fa.alloc fa.size (.cells #[.string (nmS 109 k2), .slice none 0 0, .string ⟨#[86]⟩, .bool true, .bool false, .int .i64 np, .int .i64 0, .slice none 0 0, .slice none 0 0, .slice none 0 0] 35)
        clear fa
        go_wp2_with fail
        go_loopw [16] (fun i wr => ∃ (k3 : Nat) (v1 : Value), k3 ≤ np ∧ i = .int .i64 k3 ∧ wr.heap[wo.heap.size + 1]? = some (.cells #[.string (nmS 109 k2), v1, .string ⟨#[86]⟩, .bool true, .bool false, .int .i64 np, .int .i64 0, .slice none 0 0, .slice none 0 0, .slice none 0 0] 35 (0, 0)) ∧ wr.ownsRow (wo.heap.size + 2) 9 1 v1 k3 (rep s1 k3) ∧ Below wo.heap.size wo wr) (fun i _ => np - (intOf i).toNat)
        case atStart => exact ⟨0, _, by omega, rfl, BM, World.ownsRow_nil _ _ _ _, fb⟩
        case round =>
          clear BM fb hst h64 h8
          obtain ⟨k3, v1, hk3, rfl, BM, own, fb⟩ := hrel
          by_cases hlk3 : k3 < np
          case pos =>
            have x := blk_cell BM 1
            simp only [List.getElem?_toArray, List.getElem?_cons_zero, List.getElem?_cons_succ] at x
            have own2 := own.alloc (.cells #[.string ⟨#[73]⟩] 9)
            have hnews := news_lit wr s1 9
            have f1' := alloc1 wr (.cells #[.string ⟨#[73]⟩] 9)
            have BM2 := blk_on BM f1'
            have k1' := fb.trans (f1'.mono fb.size)
            have hne : some (wo.heap.size + 1) ≠ v1.ownBlock := fun e => by have := (own.lt _ e.symm).1; omega
            have hB2 : wo.heap.size + 2 ≤ wr.heap.size := lt_of_block BM
            have hB3 := Nat.le_trans hB2 f1'.size
            have hlow := fun g e => Nat.le_trans (Nat.le_add_right _ 2) (own.lt g e).1
            go_wp2_with (at_builtin; refine wpList_append_lies _ rfl (.tmp 96) (.tmp 97) 23 rfl (wo.heap.size + 2) 9 iS (.string ⟨#[]⟩) 1 16 Try.underlying23 hiS hzS0 hzS1 hzS2 rfl (by decide) _ k3 (rep s1 k3) rfl own2 ⟨wr.heap.size, 0, none⟩ 1 1 (s1) rfl rfl hnews oneCS (by decide) (by unfold maxLen; omega) (by omega) hB3 _ rfl ?_; intro g' cap' w4 own4 g4 hat hlt; have BM4 := blk_grown BM2 g4 hne; have z := blk_cell BM4 1; have z' := blk_free BM4 1; simp only [List.getElem?_toArray, List.getElem?_cons_zero, List.getElem?_cons_succ] at z)
            have BM5 : (w4.setCell ⟨wo.heap.size + 1, 1, none⟩ (.slice (some ⟨g', 0, none⟩) (k3 + 1) cap')).heap[wo.heap.size + 1]? = some (.cells #[.string (nmS 109 k2), (.slice (some ⟨g', 0, none⟩) (k3 + 1) cap'), .string ⟨#[86]⟩, .bool true, .bool false, .int .i64 np, .int .i64 0, .slice none 0 0, .slice none 0 0, .slice none 0 0] 35 (0, 0)) := blk_set BM4 1 _
            have own5 := ownsRow_setCell_below own4 (a := ⟨wo.heap.size + 1, 1, none⟩) (Nat.lt_succ_self _) (.slice (some ⟨g', 0, none⟩) (k3 + 1) cap')
            have bel5 := (k1'.grown g4 (Nat.le_trans (Nat.le_add_right _ 2) hB3) hlow).setCell (p := ⟨wo.heap.size + 1, 1, none⟩) (Nat.le_succ _) (.slice (some ⟨g', 0, none⟩) (k3 + 1) cap')
            go_roundw
            case rel => exact ⟨k3 + 1, _, by omega, by go_num, BM5, own5, bel5⟩
            case measure => simp [intOf]; omega
          obtain rfl : np = k3 := by omega
          have ownP := own
          clear own
          go_wp2_with fail
          go_loopw [17] (fun i wr => ∃ (k4 : Nat) (v7 : Value), k4 ≤ nc ∧ i = .int .i64 k4 ∧ wr.heap[wo.heap.size + 1]? = some (.cells #[.string (nmS 109 k2), v1, .string ⟨#[86]⟩, .bool true, .bool false, .int .i64 np, .int .i64 0, v7, .slice none 0 0, .slice none 0 0] 35 (0, 0)) ∧ wr.ownsRow (wo.heap.size + 2) 9 1 v1 np (rep s1 np) ∧ wr.ownsRow (wo.heap.size + 2) 37 4 v7 k4 (rep i4 k4) ∧ Below wo.heap.size wo wr) (fun i _ => nc - (intOf i).toNat)
          case atStart => exact ⟨0, _, by omega, rfl, BM, ownP, World.ownsRow_nil _ _ _ _, fb⟩
          case round =>
            clear BM ownP fb
            obtain ⟨k4, v7, hk4, rfl, BM, ownP, own, fb⟩ := hrel
            by_cases hlk4 : k4 < nc
            case pos =>
              have x := blk_cell BM 7
              simp only [List.getElem?_toArray, List.getElem?_cons_zero, List.getElem?_cons_succ] at x
              have own2 := own.alloc (.cells #[.int .i64 46, .int .i64 0, .string ⟨#[]⟩, .string ⟨#[]⟩] 37)
              have hnews := news_lit wr i4 37
              have f1' := alloc1 wr (.cells #[.int .i64 46, .int .i64 0, .string ⟨#[]⟩, .string ⟨#[]⟩] 37)
              have BM2 := blk_on BM f1'
              have k1' := fb.trans (f1'.mono fb.size)
              have hne : some (wo.heap.size + 1) ≠ v7.ownBlock := fun e => by have := (own.lt _ e.symm).1; omega
              have hB2 : wo.heap.size + 2 ≤ wr.heap.size := lt_of_block BM
              have hB3 := Nat.le_trans hB2 f1'.size
              have hlow := fun g e => Nat.le_trans (Nat.le_add_right _ 2) (own.lt g e).1
              have apownP := own_apart (ownP.alloc (.cells #[.int .i64 46, .int .i64 0, .string ⟨#[]⟩, .string ⟨#[]⟩] 37)) own2 (by decide)
              go_wp2_with (at_builtin; refine wpList_append_lies _ rfl (.tmp 106) (.tmp 108) 31 rfl (wo.heap.size + 2) 37 iI (.agg #[.int .i64 0, .int .i64 0, .string ⟨#[]⟩, .string ⟨#[]⟩]) 4 48 Try.underlying31 hiI hzI0 hzI1 hzI2 rfl (by decide) _ k4 (rep i4 k4) rfl own2 ⟨wr.heap.size, 0, none⟩ 1 1 (i4) rfl rfl hnews oneCI (by decide) (by unfold maxLen; omega) (by omega) hB3 _ rfl ?_; intro g' cap' w4 own4 g4 hat hlt; have BM4 := blk_grown BM2 g4 hne; have z := blk_cell BM4 7; have z' := blk_free BM4 7; simp only [List.getElem?_toArray, List.getElem?_cons_zero, List.getElem?_cons_succ] at z)
              have BM5 : (w4.setCell ⟨wo.heap.size + 1, 7, none⟩ (.slice (some ⟨g', 0, none⟩) (k4 + 1) cap')).heap[wo.heap.size + 1]? = some (.cells #[.string (nmS 109 k2), v1, .string ⟨#[86]⟩, .bool true, .bool false, .int .i64 np, .int .i64 0, (.slice (some ⟨g', 0, none⟩) (k4 + 1) cap'), .slice none 0 0, .slice none 0 0] 35 (0, 0)) := blk_set BM4 7 _
              have own5 := ownsRow_setCell_below own4 (a := ⟨wo.heap.size + 1, 7, none⟩) (Nat.lt_succ_self _) (.slice (some ⟨g', 0, none⟩) (k4 + 1) cap')
              have bel5 := (k1'.grown g4 (Nat.le_trans (Nat.le_add_right _ 2) hB3) hlow).setCell (p := ⟨wo.heap.size + 1, 7, none⟩) (Nat.le_succ _) (.slice (some ⟨g', 0, none⟩) (k4 + 1) cap')
              have nownP := ownsRow_setCell_below ((ownP.alloc (.cells #[.int .i64 46, .int .i64 0, .string ⟨#[]⟩, .string ⟨#[]⟩] 37)).kept g4 apownP) (a := ⟨wo.heap.size + 1, 7, none⟩) (Nat.lt_succ_self _) (.slice (some ⟨g', 0, none⟩) (k4 + 1) cap')
              go_roundw
              case rel => exact ⟨k4 + 1, _, by omega, by go_num, BM5, nownP, own5, bel5⟩
              case measure => simp [intOf]; omega
            obtain rfl : nc = k4 := by omega
            have ownC := own
            clear own
            go_wp2_with fail
            go_loopw [18] (fun i wr => ∃ (k5 : Nat) (v9 : Value), k5 ≤ nt ∧ i = .int .i64 k5 ∧ wr.heap[wo.heap.size + 1]? = some (.cells #[.string (nmS 109 k2), v1, .string ⟨#[86]⟩, .bool true, .bool false, .int .i64 np, .int .i64 0, v7, .slice none 0 0, v9] 35 (0, 0)) ∧ wr.ownsRow (wo.heap.size + 2) 9 1 v1 np (rep s1 np) ∧ wr.ownsRow (wo.heap.size + 2) 37 4 v7 nc (rep i4 nc) ∧ wr.ownsRow (wo.heap.size + 2) 39 4 v9 k5 (rep t4 k5) ∧ Below wo.heap.size wo wr) (fun i _ => nt - (intOf i).toNat)
            case atStart => exact ⟨0, _, by omega, rfl, BM, ownP, ownC, World.ownsRow_nil _ _ _ _, fb⟩
            case round =>
              clear BM ownP ownC fb
              obtain ⟨k5, v9, hk5, rfl, BM, ownP, ownC, own, fb⟩ := hrel
              by_cases hlk5 : k5 < nt
              case pos =>
                have x := blk_cell BM 9
                simp only [List.getElem?_toArray, List.getElem?_cons_zero, List.getElem?_cons_succ] at x
                have own2 := own.alloc (.cells #[.int .i64 0, .int .i64 1, .int .i64 0, .string ⟨#[]⟩] 39)
                have hnews := news_lit wr t4 39
                have f1' := alloc1 wr (.cells #[.int .i64 0, .int .i64 1, .int .i64 0, .string ⟨#[]⟩] 39)
                have BM2 := blk_on BM f1'
                have k1' := fb.trans (f1'.mono fb.size)
                have hne : some (wo.heap.size + 1) ≠ v9.ownBlock := fun e => by have := (own.lt _ e.symm).1; omega
                have hB2 : wo.heap.size + 2 ≤ wr.heap.size := lt_of_block BM
                have hB3 := Nat.le_trans hB2 f1'.size
                have hlow := fun g e => Nat.le_trans (Nat.le_add_right _ 2) (own.lt g e).1
                have apownP := own_apart (ownP.alloc (.cells #[.int .i64 0, .int .i64 1, .int .i64 0, .string ⟨#[]⟩] 39)) own2 (by decide)
                have apownC := own_apart (ownC.alloc (.cells #[.int .i64 0, .int .i64 1, .int .i64 0, .string ⟨#[]⟩] 39)) own2 (by decide)
                go_wp2_with (at_builtin; refine wpList_append_lies _ rfl (.tmp 117) (.tmp 119) 33 rfl (wo.heap.size + 2) 39 iT (.agg #[.int .i64 0, .int .i64 0, .int .i64 0, .string ⟨#[]⟩]) 4 40 Try.underlying33 hiT hzT0 hzT1 hzT2 rfl (by decide) _ k5 (rep t4 k5) rfl own2 ⟨wr.heap.size, 0, none⟩ 1 1 (t4) rfl rfl hnews oneCT (by decide) (by unfold maxLen; omega) (by omega) hB3 _ rfl ?_; intro g' cap' w4 own4 g4 hat hlt; have BM4 := blk_grown BM2 g4 hne; have z := blk_cell BM4 9; have z' := blk_free BM4 9; simp only [List.getElem?_toArray, List.getElem?_cons_zero, List.getElem?_cons_succ] at z)
                have BM5 : (w4.setCell ⟨wo.heap.size + 1, 9, none⟩ (.slice (some ⟨g', 0, none⟩) (k5 + 1) cap')).heap[wo.heap.size + 1]? = some (.cells #[.string (nmS 109 k2), v1, .string ⟨#[86]⟩, .bool true, .bool false, .int .i64 np, .int .i64 0, v7, .slice none 0 0, (.slice (some ⟨g', 0, none⟩) (k5 + 1) cap')] 35 (0, 0)) := blk_set BM4 9 _
                have own5 := ownsRow_setCell_below own4 (a := ⟨wo.heap.size + 1, 9, none⟩) (Nat.lt_succ_self _) (.slice (some ⟨g', 0, none⟩) (k5 + 1) cap')
                have bel5 := (k1'.grown g4 (Nat.le_trans (Nat.le_add_right _ 2) hB3) hlow).setCell (p := ⟨wo.heap.size + 1, 9, none⟩) (Nat.le_succ _) (.slice (some ⟨g', 0, none⟩) (k5 + 1) cap')
                have nownP := ownsRow_setCell_below ((ownP.alloc (.cells #[.int .i64 0, .int .i64 1, .int .i64 0, .string ⟨#[]⟩] 39)).kept g4 apownP) (a := ⟨wo.heap.size + 1, 9, none⟩) (Nat.lt_succ_self _) (.slice (some ⟨g', 0, none⟩) (k5 + 1) cap')
                have nownC := ownsRow_setCell_below ((ownC.alloc (.cells #[.int .i64 0, .int .i64 1, .int .i64 0, .string ⟨#[]⟩] 39)).kept g4 apownC) (a := ⟨wo.heap.size + 1, 9, none⟩) (Nat.lt_succ_self _) (.slice (some ⟨g', 0, none⟩) (k5 + 1) cap')
                go_roundw
                case rel => exact ⟨k5 + 1, _, by omega, by go_num, BM5, nownP, nownC, own5, bel5⟩
                case measure => simp [intOf]; omega
              obtain rfl : nt = k5 := by omega
              have BC := blk_up BK fb (by omega)
              have oF := own_later ownF fb
              have oM := own_later ownM fb
              have x5 := blk_cell BC 5
              have y0 := blk_cell BM 0
              have y1 := blk_cell BM 1
              have y2 := blk_cell BM 2
              have y3 := blk_cell BM 3
              have y4 := blk_cell BM 4
              have y5 := blk_cell BM 5
              have y6 := blk_cell BM 6
              have y7 := blk_cell BM 7
              have y8 := blk_cell BM 8
              have y9 := blk_cell BM 9
              simp only [List.getElem?_toArray, List.getElem?_cons_zero, List.getElem?_cons_succ] at x5 y0 y1 y2 y3 y4 y5 y6 y7 y8 y9
              have oM2 := oM.alloc (.cells #[.string (nmS 109 k2), v1, .string ⟨#[86]⟩, .bool true, .bool false, .int .i64 np, .int .i64 0, v7, .slice none 0 0, v9] 35)
              have oF2 := oF.alloc (.cells #[.string (nmS 109 k2), v1, .string ⟨#[86]⟩, .bool true, .bool false, .int .i64 np, .int .i64 0, v7, .slice none 0 0, v9] 35)
              have apF := own_apart oF2 oM2 (by decide)
              have f1' := alloc1 wr (.cells #[.string (nmS 109 k2), v1, .string ⟨#[86]⟩, .bool true, .bool false, .int .i64 np, .int .i64 0, v7, .slice none 0 0, v9] 35)
              have hnews := news_lit wr (mcells np k2 (v1, v7, v9)) 35
              have BC2 := blk_on BC f1'
              have kw := (hbel.trans (fb.mono hbel.size))
              have k1' := kw.trans (f1'.mono kw.size)
              have hne : some w1.heap.size ≠ v5.ownBlock := fun e => by have := (ownM.lt _ e.symm).1; omega
              have hB1 := Nat.le_trans hB0 (Nat.le_trans fb.size f1'.size)
              have hlow := fun g e => Nat.le_trans (Nat.le_succ _) (ownM.lt g e).1
              have hone := oneCM np k2 (v1, v7, v9) (own_one ownP) (own_one ownC) (own_one own)
              go_wp2_with (at_builtin; refine wpList_append_lies _ rfl (.tmp 123) (.tmp 125) 25 rfl (w1.heap.size + 1) 35 iM (.agg #[.string ⟨#[]⟩, .slice none 0 0, .string ⟨#[]⟩, .bool false, .bool false, .int .i64 0, .int .i64 0, .slice none 0 0, .slice none 0 0, .slice none 0 0]) 10 152 Try.underlying25 hiM hzM0 hzM1 hzM2 rfl (by decide) _ k2 (cellsM np 0 TL) rfl oM2 ⟨wr.heap.size, 0, none⟩ 1 1 (mcells np k2 (v1, v7, v9)) rfl rfl hnews hone (by decide) (by unfold maxLen; omega) (by omega) hB1 _ rfl ?_; intro g' cap' w4 own4 g4 hat hlt; have BC4 := blk_grown BC2 g4 hne; have z := blk_cell BC4 5; have z' := blk_free BC4 5; simp only [List.getElem?_toArray, List.getElem?_cons_zero, List.getElem?_cons_succ] at z)
              have BC5 : (w4.setCell ⟨w1.heap.size, 5, none⟩ (.slice (some ⟨g', 0, none⟩) (k2 + 1) cap')).heap[w1.heap.size]? = some (.cells #[.string ⟨#[65, 98]⟩, .string ⟨#[79, 98, 106, 101, 99, 116]⟩, .bool false, .slice none 0 0, v4, .slice (some ⟨g', 0, none⟩) (k2 + 1) cap'] 27 (0, 0)) := blk_set BC4 5 _
              have oM5 := ownsRow_setCell_below own4 (a := ⟨w1.heap.size, 5, none⟩) (Nat.lt_succ_self _) (.slice (some ⟨g', 0, none⟩) (k2 + 1) cap')
              have oF5 := ownsRow_setCell_below (oF2.kept g4 apF) (a := ⟨w1.heap.size, 5, none⟩) (Nat.lt_succ_self _) (.slice (some ⟨g', 0, none⟩) (k2 + 1) cap')
              have bel5 := (k1'.grown g4 (Nat.le_trans (Nat.le_succ _) hB1) hlow).setCell (p := ⟨w1.heap.size, 5, none⟩) (Nat.le_refl _) (.slice (some ⟨g', 0, none⟩) (k2 + 1) cap')
              have eM : cellsM np 0 TL ++ mcells np k2 (v1, v7, v9) = cellsM np 0 (TL ++ [(v1, v7, v9)]) := by rw [cellsM_snoc, HTL.out, Nat.zero_add]
              rw [eM] at oM5
              have hIN5 : ∀ t ∈ TL ++ [(v1, v7, v9)], InnerOK (w4.setCell ⟨w1.heap.size, 5, none⟩ (.slice (some ⟨g', 0, none⟩) (k2 + 1) cap')) (w1.heap.size + 1) np nc nt t := by
                intro t ht
                have h0 : InnerOK wr (w1.heap.size + 1) np nc nt t := by
                  rcases List.mem_append.1 ht with ht | ht
                  · exact InnerOK.later (HIN.out t ht) fb
                  · obtain rfl : t = (v1, v7, v9) := by simpa using ht
                    exact InnerOK.low ⟨ownP, ownC, own⟩ (by omega)
                exact ((h0.later f1').grown oM2 g4).set (a := ⟨w1.heap.size, 5, none⟩) (Nat.lt_succ_self _) _
              have hTL5 : (TL ++ [(v1, v7, v9)]).length = k2 + 1 := by rw [List.length_append, HTL.out]; rfl
              go_roundw
              case rel => exact ⟨k2 + 1, _, TL ++ [(v1, v7, v9)], by omega, by go_num, hTL5, BC5, oF5, oM5, hIN5, bel5⟩
              case measure => simp [intOf]; omega
      obtain rfl : nm = k2 := by omega
      have VC := lim_cls HTL.out ownF ownM HIN.out
      have y0 := blk_cell BK 0
      have y1 := blk_cell BK 1
      have y2 := blk_cell BK 2
      have y3 := blk_cell BK 3
      have y4 := blk_cell BK 4
      have y5 := blk_cell BK 5
      simp only [List.getElem?_toArray, List.getElem?_cons_zero, List.getElem?_cons_succ] at y0 y1 y2 y3 y4 y5
      have kw := e1.trans (hbel.mono e1.size)
      clear HIN HTL hbel BK ownF ownM
      obtain ⟨q1, hq1⟩ : ∃ q, decide (nf ≤ 8) = q := ⟨_, rfl⟩
      obtain ⟨q2, hq2⟩ : ∃ q, decide (nm ≤ 8) = q := ⟨_, rfl⟩
      obtain ⟨q3, hq3⟩ : ∃ q, decide (nm = 0) = q := ⟨_, rfl⟩
      obtain ⟨q4, hq4⟩ : ∃ q, decide (np ≤ 6) = q := ⟨_, rfl⟩
      obtain ⟨q5, hq5⟩ : ∃ q, decide (nc ≤ 100) = q := ⟨_, rfl⟩
      obtain ⟨q6, hq6⟩ : ∃ q, decide (nt ≤ 6) = q := ⟨_, rfl⟩
      rw [hq1, hq2, hq3, hq4, hq5, hq6] at HMAY
      have hr1 : decide ((nf : Int) ≤ 8) = q1 := by rw [← hq1, Bool.eq_iff_iff]; simp; omega
      have hr2 : decide ((nm : Int) ≤ 8) = q2 := by rw [← hq2, Bool.eq_iff_iff]; simp; omega
      have hr3 : ((nm : Int) == 0) = q3 := by rw [← hq3, Bool.eq_iff_iff]; simp
      have hr4 : decide ((np : Int) ≤ 6) = q4 := by rw [← hq4, Bool.eq_iff_iff]; simp; omega
      have hr5 : decide ((nc : Int) ≤ 100) = q5 := by rw [← hq5, Bool.eq_iff_iff]; simp; omega
      have hr6 : decide ((nt : Int) ≤ 6) = q6 := by rw [← hq6, Bool.eq_iff_iff]; simp; omega
      clear hq1 hq2 hq3 hq4 hq5 hq6
      cases q1
      case false =>
        have HY : Hid (mayP (limL nf nm np nc nt) = false) := by show _ = _; rw [HMAY.out]; rfl
        clear HMAY
        go_wp2_with fail
        refine (cmay_any _ _ _ (limL nf nm np nc nt) _ VC).mono ?_
        rintro e w9 ⟨rfl, b9⟩
        rw [HY.out]
        have k9 := kw.trans (b9.mono kw.size)
        clear VC HY y0 y1 y2 y3 y4 y5
        go_wp2_with fail
        go_ret
        exact ⟨rfl, k9⟩
      cases q2
      case false =>
        have HY : Hid (mayP (limL nf nm np nc nt) = false) := by show _ = _; rw [HMAY.out]; rfl
        clear HMAY
        go_wp2_with fail
        refine (cmay_any _ _ _ (limL nf nm np nc nt) _ VC).mono ?_
        rintro e w9 ⟨rfl, b9⟩
        rw [HY.out]
        have k9 := kw.trans (b9.mono kw.size)
        clear VC HY y0 y1 y2 y3 y4 y5
        go_wp2_with fail
        go_ret
        exact ⟨rfl, k9⟩
      cases q3
      case true =>
        have HY : Hid (mayP (limL nf nm np nc nt) = true) := by show _ = _; rw [HMAY.out]; rfl
        clear HMAY
        go_wp2_with fail
        refine (cmay_any _ _ _ (limL nf nm np nc nt) _ VC).mono ?_
        rintro e w9 ⟨rfl, b9⟩
        rw [HY.out]
        have k9 := kw.trans (b9.mono kw.size)
        clear VC HY y0 y1 y2 y3 y4 y5
        go_wp2_with fail
        go_ret
        exact ⟨rfl, k9⟩
      cases q4
      case false =>
        have HY : Hid (mayP (limL nf nm np nc nt) = false) := by show _ = _; rw [HMAY.out]; rfl
        clear HMAY
        go_wp2_with fail
        refine (cmay_any _ _ _ (limL nf nm np nc nt) _ VC).mono ?_
        rintro e w9 ⟨rfl, b9⟩
        rw [HY.out]
        have k9 := kw.trans (b9.mono kw.size)
        clear VC HY y0 y1 y2 y3 y4 y5
        go_wp2_with fail
        go_ret
        exact ⟨rfl, k9⟩
      cases q5
      case false =>
        have HY : Hid (mayP (limL nf nm np nc nt) = false) := by show _ = _; rw [HMAY.out]; rfl
        clear HMAY
        go_wp2_with fail
        refine (cmay_any _ _ _ (limL nf nm np nc nt) _ VC).mono ?_
        rintro e w9 ⟨rfl, b9⟩
        rw [HY.out]
        have k9 := kw.trans (b9.mono kw.size)
        clear VC HY y0 y1 y2 y3 y4 y5
        go_wp2_with fail
        go_ret
        exact ⟨rfl, k9⟩
      have HY : Hid (mayP (limL nf nm np nc nt) = q6) := by show _ = _; rw [HMAY.out]; rfl
      clear HMAY
      go_wp2_with fail
      refine (cmay_any _ _ _ (limL nf nm np nc nt) _ VC).mono ?_
      rintro e w9 ⟨rfl, b9⟩
      rw [HY.out]
      have k9 := kw.trans (b9.mono kw.size)
      clear VC HY y0 y1 y2 y3 y4 y5
      go_wp2_with fail
      go_ret
      exact ⟨ret_b (by simp), k9⟩
theorem walk (f m p c t : Int) (w : World) (w0 : (Lit.int .i64 f).wf = true) (w1 : (Lit.int .i64 m).wf = true) (w2 : (Lit.int .i64 p).wf = true) (w3 : (Lit.int .i64 c).wf = true) (w4 : (Lit.int .i64 t).wf = true) :
    Calls Try.prog 3 #[.int .i64 f, .int .i64 m, .int .i64 p, .int .i64 c, .int .i64 t] w fun e w' => e = .returned (.bool true) ∧ Below w.heap.size w w' := by
  by_cases h : (0 ≤ f ∧ f ≤ 10 ∧ 0 ≤ m ∧ m ≤ 10 ∧ 0 ≤ p ∧ p ≤ 8 ∧ 1 ≤ c ∧ c ≤ 104 ∧ 0 ≤ t ∧ t ≤ 8)
  · obtain ⟨h0, h1, h2, h3, h4, h5, h6, h7, h8, h9⟩ := h
    obtain ⟨nf, rfl⟩ := Int.eq_ofNat_of_zero_le h0
    obtain ⟨nm, rfl⟩ := Int.eq_ofNat_of_zero_le h2
    obtain ⟨np, rfl⟩ := Int.eq_ofNat_of_zero_le h4
    obtain ⟨nc, rfl⟩ := Int.eq_ofNat_of_zero_le (show 0 ≤ c by omega)
    obtain ⟨nt, rfl⟩ := Int.eq_ofNat_of_zero_le h8
    exact near nf nm np nc nt w (by omega) (by omega) (by omega) (by omega) (by omega) (by omega)
  · exact far f m p c t w h
/-! ### The row -/
theorem own : ownKnob Try.prog.godebug = none := by kernel_rfl
theorem laidOut : laidOutB Try.prog = true := by kernel_rfl
set_option maxRecDepth 100000 in
theorem lifted (os : Os) (started : os.Started) (H : Type) (enc : TypeId × Value → H) :
    ReturnsInHanded {} Try.checked os 3 .any (Rows.classLimitsSpec.pre6 enc Try.prog Try.f3 Rows.classLimitsRow.domain false) (Rows.classLimitsSpec.post enc Try.prog Try.f3 false true false false) := by
  refine returnsInHanded_of_change (C := Try.checked) own started (by kernel_rfl) Try.func3
    (ChangeSpec.witness6 (enc := enc) (C := Try.checked) false ⟨#[], #[.int .i64 0, .int .i64 0, .int .i64 0, .int .i64 0, .int .i64 0], []⟩ 8 (by kernel_rfl) (by kernel_rfl) (by kernel_rfl) (by kernel_rfl)) ?_
  intro W base args ds gs before hval0 hW hcnd _
  have hval : ∀ (j : Nat) t v, Try.f3.params[j]? = some t → args[j]? = some v → Value.okWide Try.prog W .any base t v := hval0
  have hW' := hW
  obtain ⟨p, q, hA0, hV, rfl, hfz, hnd⟩ := hW
  have hA : DataW.TrodAll enc Try.prog W 0 (fun _ => true) true Try.f3.params.toList args.toList ds p := hA0
  rw [Try.params3] at hA hval
  obtain ⟨v0, vs0, d0, ds0, p0, q0, hargs, rfl, rfl, h0, r0⟩ := trodAll_cons hA
  obtain ⟨v1, vs1, d1, ds1, p1, q1, rfl, rfl, rfl, h1, r1⟩ := trodAll_cons r0
  obtain ⟨v2, vs2, d2, ds2, p2, q2, rfl, rfl, rfl, h2, r2⟩ := trodAll_cons r1
  obtain ⟨v3, vs3, d3, ds3, p3, q3, rfl, rfl, rfl, h3, r3⟩ := trodAll_cons r2
  obtain ⟨v4, vs4, d4, ds4, p4, q4, rfl, rfl, rfl, h4, r4⟩ := trodAll_cons r3
  obtain ⟨rfl, rfl, rfl⟩ := trodAll_nil r4
  obtain rfl : args = #[v0, v1, v2, v3, v4] := by cases args; simp_all
  obtain ⟨rfl, rfl⟩ := trodVars_none hV
  obtain ⟨a0, rfl, rfl, rfl, w0⟩ := open_int Try.underlying3 (hval 0 3 v0 rfl rfl) h0
  obtain ⟨a1, rfl, rfl, rfl, w1⟩ := open_int Try.underlying3 (hval 1 3 v1 rfl rfl) h1
  obtain ⟨a2, rfl, rfl, rfl, w2⟩ := open_int Try.underlying3 (hval 2 3 v2 rfl rfl) h2
  obtain ⟨a3, rfl, rfl, rfl, w3⟩ := open_int Try.underlying3 (hval 3 3 v3 rfl rfl) h3
  obtain ⟨a4, rfl, rfl, rfl, w4⟩ := open_int Try.underlying3 (hval 4 3 v4 rfl rfl) h4
  clear hA0 hval0
  refine (walk a0 a1 a2 a3 a4 W w0 w1 w2 w3 w4).mono fun e W' ⟨he, bel⟩ => ?_
  subst he
  exact ⟨_, rfl, _, _, _, [], _, [], hW', trodAll_mk1 (shut_bool Try.underlying4 _), (trodAll_cons_mk (shut_int Try.underlying3 w0) (trodAll_cons_mk (shut_int Try.underlying3 w1) (trodAll_cons_mk (shut_int Try.underlying3 w2) (trodAll_cons_mk (shut_int Try.underlying3 w3) (trodAll_cons_mk (shut_int Try.underlying3 w4) trodAll_mk0))))), rfl, bel.frame _, fun h => by cases h⟩

theorem over : Rows.classLimitsRow.holds Try.pinned (OpenSpec.ofChange Rows.classLimitsSpec) :=
  OpenClaim.holds_of_wide 3 Try.f3 rfl rfl rfl rfl rfl rfl rfl ⟨rfl, rfl, rfl, rfl, rfl⟩ rfl rfl rfl rfl rfl (by kernel_rfl) Try.func3 (by kernel_rfl)
    (of_decide_eq_true (by kernel_rfl)) (by unfold Func.isWrapper; first | (rw [if_pos (by decide +kernel)]; kernel_rfl) | (rw [if_neg (by decide +kernel)]; exact ⟨rfl, rfl⟩))
    (fun os started H enc _ => lifted os started H enc)

end ClassLimits

theorem classLimits_holds : Rows.ClassLimitsSaid := ClassLimits.over
#print axioms classLimits_holds
end Go.Proofs.Ytbfcjflgomedgaa
