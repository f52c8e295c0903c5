/- For every three numbers the law FileLong answers true: a class of so many methods, instructions and Maps is written, as the document says, if it has at most 6,000 bytes, and read back as the same; if it has more it is not written; no condition on the input. (Written by tools/gen/genlong.py.) -/
import Derived.Test.YthioaedhabfkgaaGreatLongAB
import Derived.WalkKit
import Derived.ProofKit
import Derived.OpenShut
import Derived.ShutString
import Derived.ChangeOld
import Derived.Below
import Derived.Deep.RegionHeld
namespace Go.Proofs.YthioaedhabfkgaaGreat
namespace FileLong
open Num Kind Op4 Cls Fil
open Go.ChangeShapes Go.WideShapes Go.ChangeAt Go.RowKit
open Go.ChangeMaps (open_string shut_string)
set_option linter.unusedVariables false
set_option linter.unusedSimpArgs false
set_option maxRecDepth 100000

theorem oneCI : ∀ u ∈ i4, u.oneCell' = true := by
  intro u hu
  simp only [i4, List.mem_cons, List.not_mem_nil, or_false] at hu
  rcases hu with rfl | rfl | rfl | rfl <;> rfl
theorem oneCG : ∀ u ∈ g4, u.oneCell' = true := by
  intro u hu
  simp only [g4, List.mem_cons, List.not_mem_nil, or_false] at hu
  rcases hu with rfl | rfl | rfl | rfl <;> rfl
theorem own_one {w : World} {base e size n : Nat} {v : Value} {xs : List Value} (h : w.ownsRow base e size v n xs) : v.oneCell' = true := by
  rcases h.2 with ⟨rfl, _⟩ | ⟨g, cap, cur, rfl, _⟩ <;> rfl
theorem oneCX (k : Int) (g h : Nat) : ∀ u ∈ xcells (k, .slice (some ⟨g, 0, none⟩) 4 4, .slice (some ⟨h, 0, none⟩) 2 2), u.oneCell' = true := by
  intro u hu
  simp only [xcells, List.mem_cons, List.not_mem_nil, or_false] at hu
  rcases hu with rfl | rfl | rfl <;> rfl
theorem oneCM (k : Nat) (t : Value × Value) (h1 : t.1.oneCell' = true) (h2 : t.2.oneCell' = true) : ∀ u ∈ mcells k t, u.oneCell' = true := by
  intro u hu
  simp only [mcells, List.mem_cons, List.not_mem_nil, or_false] at hu
  rcases hu with rfl | rfl | rfl | rfl | rfl | rfl | rfl | rfl | rfl | rfl <;> first | rfl | assumption
theorem strF (p : Int) (k : Nat) (w : World) : (convert 29 9 (.slice (some ⟨w.heap.size, 0, none⟩) 2 2)).run Tryz.prog (w.alloc (.cells #[.int .u8 p, .int .u8 (48 + k)] 5)) = .ok (.string (nmS p k)) (w.alloc (.cells #[.int .u8 p, .int .u8 (48 + k)] 5)) :=
  (Has.lit w [p, 48 + (k : Int)] (by simp [maxLen])).str

set_option maxHeartbeats 16000000 in
theorem near (nm nc nx : Nat) (w : World) (m0 : 1 ≤ nm) (m1 : nm ≤ 8) (c0 : 1 ≤ nc) (c1 : nc ≤ 100) (hx : nx ≤ nc) :
    Calls Tryz.prog 6 #[.int .i64 nm, .int .i64 nc, .int .i64 nx] w fun e w' => e = .returned (.bool true) ∧ Below w.heap.size w w' := by
  obtain ⟨iI, hiI, hzI0, hzI1, hzI2⟩ := info_parts infoI
  obtain ⟨iX, hiX, hzX0, hzX1, hzX2⟩ := info_parts infoX
  obtain ⟨iM, hiM, hzM0, hzM1, hzM2⟩ := info_parts infoM
  have HMAY : Hid _ := long_may nm nc nx m1 c0 c1 hx
  have d0 : decide ((nm : Int) < 1) = false := by simp; omega
  have d1 : decide (8 < (nm : Int)) = false := by simp; omega
  have d2 : decide ((nc : Int) < 1) = false := by simp; omega
  have d3 : decide (100 < (nc : Int)) = false := by simp; omega
  have d4 : decide ((nx : Int) < 0) = false := by simp
  have d5 : decide ((nc : Int) < (nx : Int)) = false := by simp; omega
  have d6 : decide (nc < nx) = false := by simp; omega
  have d7 : decide (8 < nm) = false := by simp; omega
  have d8 : decide (100 < nc) = false := by simp; omega
  have d9 : decide (nm < 1) = false := by simp; omega
  have d10 : decide (nc < 1) = false := by simp; omega
  have hsub : IntKind.i64.wrap ((nc : Int) - 1) = ((nc - 1 : Nat) : Int) := by rw [IntWalk.i64_in _ (by omega)]; omega
  go_enter Tryz.func6, Tryz.ntmps6
  go_wp2_with fail
  refine (Fil.begun_any _).mono ?_
  rintro e w1 ⟨rfl, e1⟩
  go_upto_region 6 with fail
  clear d0 d1 d2 d3 d4 d5 d6 d7 d8 d9 d10
  go_wp2_with fail
  refine (one_abs ⟨#[65, 98]⟩ w1 (by decide)).mono ?_
  rintro e w2 ⟨b4, b5, rfl, hV, e2⟩
  have BK := blk_new w2 #[.string ⟨#[65, 98]⟩, .string ⟨#[79, 98, 106, 101, 99, 116]⟩, .bool false, .slice none 0 0, .slice (some ⟨b4, 0, none⟩) 1 1, .slice none 0 0] 26
  have e3 := alloc1 w2 (.cells #[.string ⟨#[65, 98]⟩, .string ⟨#[79, 98, 106, 101, 99, 116]⟩, .bool false, .slice none 0 0, .slice (some ⟨b4, 0, none⟩) 1 1, .slice none 0 0] 26)
  have HFD : Hid _ := hV.fields
  clear hV
  go_wp2_with fail
  go_loopw [9] (fun i wr => ∃ (k2 : Nat) (v5 : Value) (TL : List (Value × Value)), k2 ≤ nm ∧ i = .int .i64 k2 ∧ TL.length = k2 ∧ wr.heap[w2.heap.size]? = some (.cells #[.string ⟨#[65, 98]⟩, .string ⟨#[79, 98, 106, 101, 99, 116]⟩, .bool false, .slice none 0 0, .slice (some ⟨b4, 0, none⟩) 1 1, v5] 26 (0, 0)) ∧ wr.ownsRow (w2.heap.size + 1) 46 10 v5 k2 (cellsM 0 TL) ∧ (∀ t ∈ TL, InnerOK wr (w2.heap.size + 1) nc nx t) ∧ Below w2.heap.size w2 wr) (fun i _ => nm - (intOf i).toNat)
  case atStart => exact ⟨0, _, [], by omega, rfl, rfl, BK, World.ownsRow_nil _ _ _ _, fun t ht => (by cases ht), e3⟩
  case round =>
    clear BK e3
    obtain ⟨k2, v5, TL, hk2, rfl, hTL, BK, ownM, hIN, hbel⟩ := hrel
    obtain ⟨wo, hwo⟩ : ∃ x, x = wr := ⟨_, rfl⟩
    subst hwo
    have HIN : Hid _ := hIN
    have HTL : Hid _ := hTL
    clear hIN hTL
    have hB0 : w2.heap.size + 1 ≤ wo.heap.size := lt_of_block BK
    by_cases hlk : k2 < nm
    case pos =>
      have h64 : IntKind.i64.wrap (48 + (k2 : Int)) = 48 + (k2 : Int) := IntWalk.i64_in _ (by omega)
      have h8 : IntKind.u8.wrap (48 + (k2 : Int)) = 48 + (k2 : Int) := IntWalk.u8_in _ (by omega)
      have hst := strF 109 k2 wo
      have BM := blk_new (wo.alloc (.cells #[.int .u8 109, .int .u8 (48 + k2)] 5)) #[.string (nmS 109 k2), .slice none 0 0, .string ⟨#[86]⟩, .bool true, .bool false, .int .i64 4, .int .i64 2, .slice none 0 0, .slice none 0 0, .slice none 0 0] 46
      rw [alloc_size] at BM
      have fa := alloc1 wo (.cells #[.int .u8 109, .int .u8 (48 + k2)] 5)
      have fb := fa.alloc fa.size (.cells #[.string (nmS 109 k2), .slice none 0 0, .string ⟨#[86]⟩, .bool true, .bool false, .int .i64 4, .int .i64 2, .slice none 0 0, .slice none 0 0, .slice none 0 0] 46)
      clear fa
      go_wp2_with fail
      go_loopw [11] (fun i wr => ∃ (k3 : Nat) (v7 : Value), k3 ≤ nc - 1 ∧ i = .int .i64 k3 ∧ wr.heap[wo.heap.size + 1]? = some (.cells #[.string (nmS 109 k2), .slice none 0 0, .string ⟨#[86]⟩, .bool true, .bool false, .int .i64 4, .int .i64 2, v7, .slice none 0 0, .slice none 0 0] 46 (0, 0)) ∧ wr.ownsRow (wo.heap.size + 2) 48 4 v7 k3 (rep g4 k3) ∧ Below wo.heap.size wo wr) (fun i _ => nc - 1 - (intOf i).toNat)
      case atStart => exact ⟨0, _, by omega, rfl, BM, World.ownsRow_nil _ _ _ _, fb⟩
      case round =>
        clear BM fb hst h64 h8
        obtain ⟨k3, v7, hk3, rfl, BM, own, fb⟩ := hrel
        by_cases hlk3 : k3 < nc - 1
        case pos =>
          have dk : decide ((k3 : Int) < ((nc - 1 : Nat) : Int)) = true := by simp; omega
          have x := blk_cell BM 7
          simp only [List.getElem?_toArray, List.getElem?_cons_zero, List.getElem?_cons_succ] at x
          have own2 := own.alloc (.cells #[.int .i64 38, .int .i64 0, .string ⟨#[67, 100, 101, 102, 103, 104, 105, 106]⟩, .string ⟨#[107, 108, 109, 110, 111, 112, 113, 114]⟩] 48)
          have hnews := news_lit wr g4 48
          have f1' := alloc1 wr (.cells #[.int .i64 38, .int .i64 0, .string ⟨#[67, 100, 101, 102, 103, 104, 105, 106]⟩, .string ⟨#[107, 108, 109, 110, 111, 112, 113, 114]⟩] 48)
          have BM2 := blk_on BM f1'
          have k1' := fb.trans (f1'.mono fb.size)
          have hne : some (wo.heap.size + 1) ≠ v7.ownBlock := fun e => by have := (own.lt _ e.symm).1; omega
          have hB2 : wo.heap.size + 2 ≤ wr.heap.size := lt_of_block BM
          have hB3 := Nat.le_trans hB2 f1'.size
          have hlow := fun g e => Nat.le_trans (Nat.le_add_right _ 2) (own.lt g e).1
          go_wp2_with (at_builtin; refine wpList_append_lies _ rfl (.tmp 63) (.tmp 65) 42 rfl (wo.heap.size + 2) 48 iI (.agg #[.int .i64 0, .int .i64 0, .string ⟨#[]⟩, .string ⟨#[]⟩]) 4 48 Tryz.underlying42 hiI hzI0 hzI1 hzI2 rfl (by decide) _ k3 (rep g4 k3) rfl own2 ⟨wr.heap.size, 0, none⟩ 1 1 (g4) rfl rfl hnews oneCG (by decide) (by unfold maxLen; omega) (by omega) hB3 _ rfl ?_; intro g' cap' w4 own4 gr4 hat hlt; have BM4 := blk_grown BM2 gr4 hne; have z := blk_cell BM4 7; have z' := blk_free BM4 7; simp only [List.getElem?_toArray, List.getElem?_cons_zero, List.getElem?_cons_succ] at z)
          have BM5 : (w4.setCell ⟨wo.heap.size + 1, 7, none⟩ (.slice (some ⟨g', 0, none⟩) (k3 + 1) cap')).heap[wo.heap.size + 1]? = some (.cells #[.string (nmS 109 k2), .slice none 0 0, .string ⟨#[86]⟩, .bool true, .bool false, .int .i64 4, .int .i64 2, (.slice (some ⟨g', 0, none⟩) (k3 + 1) cap'), .slice none 0 0, .slice none 0 0] 46 (0, 0)) := blk_set BM4 7 _
          have own5 := ownsRow_setCell_below own4 (a := ⟨wo.heap.size + 1, 7, none⟩) (Nat.lt_succ_self _) (.slice (some ⟨g', 0, none⟩) (k3 + 1) cap')
          have bel5 := (k1'.grown gr4 (Nat.le_trans (Nat.le_add_right _ 2) hB3) hlow).setCell (p := ⟨wo.heap.size + 1, 7, none⟩) (Nat.le_succ _) (.slice (some ⟨g', 0, none⟩) (k3 + 1) cap')
          go_roundw
          case rel => exact ⟨k3 + 1, _, by omega, by go_num, BM5, own5, bel5⟩
          case measure => simp [intOf]; omega
        have dk : decide ((k3 : Int) < ((nc - 1 : Nat) : Int)) = false := by simp; omega
        have dk2 : decide (k3 < nc - 1) = false := by simp; omega
        have HK3 : Hid (k3 = nc - 1) := by show _ = _; omega
        have x := blk_cell BM 7
        simp only [List.getElem?_toArray, List.getElem?_cons_zero, List.getElem?_cons_succ] at x
        have own2 := own.alloc (.cells #[.int .i64 46, .int .i64 0, .string ⟨#[]⟩, .string ⟨#[]⟩] 48)
        have hnews := news_lit wr i4 48
        have f1' := alloc1 wr (.cells #[.int .i64 46, .int .i64 0, .string ⟨#[]⟩, .string ⟨#[]⟩] 48)
        have BM2 := blk_on BM f1'
        have k1' := fb.trans (f1'.mono fb.size)
        have hne : some (wo.heap.size + 1) ≠ v7.ownBlock := fun e => by have := (own.lt _ e.symm).1; omega
        have hB2 : wo.heap.size + 2 ≤ wr.heap.size := lt_of_block BM
        have hB3 := Nat.le_trans hB2 f1'.size
        have hlow := fun g e => Nat.le_trans (Nat.le_add_right _ 2) (own.lt g e).1
        go_upto_region 17 with (at_builtin; refine wpList_append_lies _ rfl (.tmp 69) (.tmp 71) 42 rfl (wo.heap.size + 2) 48 iI (.agg #[.int .i64 0, .int .i64 0, .string ⟨#[]⟩, .string ⟨#[]⟩]) 4 48 Tryz.underlying42 hiI hzI0 hzI1 hzI2 rfl (by decide) _ k3 (rep g4 k3) rfl own2 ⟨wr.heap.size, 0, none⟩ 1 1 (i4) rfl rfl hnews oneCI (by decide) (by unfold maxLen; omega) (by omega) hB3 _ rfl ?_; intro g' cap' w4 own4 gr4 hat hlt; have BM4 := blk_grown BM2 gr4 hne; have z := blk_cell BM4 7; have z' := blk_free BM4 7; simp only [List.getElem?_toArray, List.getElem?_cons_zero, List.getElem?_cons_succ] at z)
        have BM5 : (w4.setCell ⟨wo.heap.size + 1, 7, none⟩ (.slice (some ⟨g', 0, none⟩) (k3 + 1) cap')).heap[wo.heap.size + 1]? = some (.cells #[.string (nmS 109 k2), .slice none 0 0, .string ⟨#[86]⟩, .bool true, .bool false, .int .i64 4, .int .i64 2, (.slice (some ⟨g', 0, none⟩) (k3 + 1) cap'), .slice none 0 0, .slice none 0 0] 46 (0, 0)) := blk_set BM4 7 _
        have own5 := ownsRow_setCell_below own4 (a := ⟨wo.heap.size + 1, 7, none⟩) (Nat.lt_succ_self _) (.slice (some ⟨g', 0, none⟩) (k3 + 1) cap')
        have bel5 := (k1'.grown gr4 (Nat.le_trans (Nat.le_add_right _ 2) hB3) hlow).setCell (p := ⟨wo.heap.size + 1, 7, none⟩) (Nat.le_succ _) (.slice (some ⟨g', 0, none⟩) (k3 + 1) cap')
        generalize w4.setCell ⟨wo.heap.size + 1, 7, none⟩ (.slice (some ⟨g', 0, none⟩) (k3 + 1) cap') = w5 at *
        generalize (.slice (some ⟨g', 0, none⟩) (k3 + 1) cap' : Value) = v7' at *
        rw [HK3.out] at own5
        rw [show nc - 1 + 1 = nc by omega] at own5
        clear x own2 hnews f1' BM2 k1' hne hB2 hB3 hlow BM4 z z' own4 gr4 hat hlt BM own fb dk dk2 HK3 hlk3 hk3
        go_wp2_with fail
        go_loopw [12] (fun i wr => ∃ (k4 : Nat) (v8 : Value) (XL : List X3), k4 ≤ nx ∧ i = .int .i64 k4 ∧ XL.length = k4 ∧ wr.heap[wo.heap.size + 1]? = some (.cells #[.string (nmS 109 k2), .slice none 0 0, .string ⟨#[86]⟩, .bool true, .bool false, .int .i64 4, .int .i64 2, v7', v8, .slice none 0 0] 46 (0, 0)) ∧ wr.ownsRow (wo.heap.size + 2) 48 4 v7' nc (rep g4 (nc - 1) ++ i4) ∧ wr.ownsRow (wo.heap.size + 2) 50 3 v8 k4 (cellsX XL) ∧ Maps9 wr XL ∧ Below wo.heap.size wo wr) (fun i _ => nx - (intOf i).toNat)
        case atStart => exact ⟨0, _, [], by omega, rfl, rfl, BM5, own5, World.ownsRow_nil _ _ _ _, fun q hq => absurd hq (by simp), bel5⟩
        case round =>
          clear BM5 own5 bel5
          obtain ⟨k4, v8, XL, hk4, rfl, hXL, BM, ownC, own, hM9, fb⟩ := hrel
          have HXL : Hid _ := hXL
          have HM9 : Hid _ := hM9
          clear hXL hM9
          by_cases hlk4 : k4 < nx
          case pos =>
            have x := blk_cell BM 8
            simp only [List.getElem?_toArray, List.getElem?_cons_zero, List.getElem?_cons_succ] at x
            have a1 := alloc1 wr (.cells #[.string ⟨#[73]⟩, .string ⟨#[78]⟩, .string ⟨#[84]⟩, .string ⟨#[79, 98, 106, 101, 99, 116]⟩] 9)
            have z1 := alloc_size wr (.cells #[.string ⟨#[73]⟩, .string ⟨#[78]⟩, .string ⟨#[84]⟩, .string ⟨#[79, 98, 106, 101, 99, 116]⟩] 9)
            have BL := blk_new wr sL 9
            unfold sL at BL
            have a2 := alloc1 (wr.alloc (.cells #[.string ⟨#[73]⟩, .string ⟨#[78]⟩, .string ⟨#[84]⟩, .string ⟨#[79, 98, 106, 101, 99, 116]⟩] 9)) (.cells #[.string ⟨#[73]⟩, .string ⟨#[91, 73]⟩] 9)
            have z2 := alloc_size (wr.alloc (.cells #[.string ⟨#[73]⟩, .string ⟨#[78]⟩, .string ⟨#[84]⟩, .string ⟨#[79, 98, 106, 101, 99, 116]⟩] 9)) (.cells #[.string ⟨#[73]⟩, .string ⟨#[91, 73]⟩] 9)
            have BS := blk_new (wr.alloc (.cells #[.string ⟨#[73]⟩, .string ⟨#[78]⟩, .string ⟨#[84]⟩, .string ⟨#[79, 98, 106, 101, 99, 116]⟩] 9)) sS 9
            unfold sS at BS
            have a12 := a1.trans (a2.mono a1.size)
            rw [z1] at BS z2
            have BL := blk_on BL a2
            have hnews := news_lit ((wr.alloc (.cells #[.string ⟨#[73]⟩, .string ⟨#[78]⟩, .string ⟨#[84]⟩, .string ⟨#[79, 98, 106, 101, 99, 116]⟩] 9)).alloc (.cells #[.string ⟨#[73]⟩, .string ⟨#[91, 73]⟩] 9)) (xcells ((k4 : Int), .slice (some ⟨wr.heap.size, 0, none⟩) 4 4, .slice (some ⟨wr.heap.size + 1, 0, none⟩) 2 2)) 50
            rw [z2] at hnews
            have a3 := alloc1 ((wr.alloc (.cells #[.string ⟨#[73]⟩, .string ⟨#[78]⟩, .string ⟨#[84]⟩, .string ⟨#[79, 98, 106, 101, 99, 116]⟩] 9)).alloc (.cells #[.string ⟨#[73]⟩, .string ⟨#[91, 73]⟩] 9)) (.cells #[.int .i64 k4, .slice (some ⟨wr.heap.size, 0, none⟩) 4 4, .slice (some ⟨wr.heap.size + 1, 0, none⟩) 2 2] 50)
            have a123 := a12.trans (a3.mono a12.size)
            have BL := blk_on BL a3
            have BS := blk_on BS a3
            have xk := blk_cell (blk_on BM a12) 8
            have own2 := own_later own a123
            have ownC2 := own_later ownC a123
            have BM2 := blk_on BM a123
            have k1' := fb.trans (a123.mono fb.size)
            have hne : some (wo.heap.size + 1) ≠ v8.ownBlock := fun e => by have := (own.lt _ e.symm).1; omega
            have hB2 : wo.heap.size + 2 ≤ wr.heap.size := lt_of_block BM
            have hB3 := Nat.le_trans hB2 a123.size
            have hlow := fun g e => Nat.le_trans (Nat.le_add_right _ 2) (own.lt g e).1
            have apC := own_apart ownC2 own2 (by decide)
            have hM2 : ∀ q (h : q < XL.length), MapIn _ q XL[q] := fun q h => (HM9.out q h).later a123
            have hMn : MapIn _ k4 ((k4 : Int), .slice (some ⟨wr.heap.size, 0, none⟩) 4 4, .slice (some ⟨wr.heap.size + 1, 0, none⟩) 2 2) := ⟨_, _, rfl, BL, BS⟩
            have HM2 : Hid _ := hM2
            have HMN : Hid _ := hMn
            clear hM2 hMn a1 a2 a12 a3 z1 z2 BL BS
            go_wp2_with (at_builtin; refine wpList_append_lies _ rfl (.tmp 80) (.tmp 85) 43 rfl (wo.heap.size + 2) 50 iX (.agg #[.int .i64 0, .slice none 0 0, .slice none 0 0]) 3 56 Tryz.underlying43 hiX hzX0 hzX1 hzX2 rfl (by decide) _ k4 (cellsX XL) rfl own2 ⟨wr.heap.size + 1 + 1, 0, none⟩ 1 1 (xcells ((k4 : Int), .slice (some ⟨wr.heap.size, 0, none⟩) 4 4, .slice (some ⟨wr.heap.size + 1, 0, none⟩) 2 2)) rfl rfl hnews (oneCX _ _ _) (by decide) (by unfold maxLen; omega) (by omega) hB3 _ rfl ?_; intro g' cap' w4 own4 gr4 hat hlt; have BM4 := blk_grown BM2 gr4 hne; have z := blk_cell BM4 8; have z' := blk_free BM4 8; simp only [List.getElem?_toArray, List.getElem?_cons_zero, List.getElem?_cons_succ] at z)
            have BM5 : (w4.setCell ⟨wo.heap.size + 1, 8, none⟩ (.slice (some ⟨g', 0, none⟩) (k4 + 1) cap')).heap[wo.heap.size + 1]? = some (.cells #[.string (nmS 109 k2), .slice none 0 0, .string ⟨#[86]⟩, .bool true, .bool false, .int .i64 4, .int .i64 2, v7', (.slice (some ⟨g', 0, none⟩) (k4 + 1) cap'), .slice none 0 0] 46 (0, 0)) := blk_set BM4 8 _
            have own5 := ownsRow_setCell_below own4 (a := ⟨wo.heap.size + 1, 8, none⟩) (Nat.lt_succ_self _) (.slice (some ⟨g', 0, none⟩) (k4 + 1) cap')
            have ownC5 := ownsRow_setCell_below (ownC2.kept gr4 apC) (a := ⟨wo.heap.size + 1, 8, none⟩) (Nat.lt_succ_self _) (.slice (some ⟨g', 0, none⟩) (k4 + 1) cap')
            have bel5 := (k1'.grown gr4 (Nat.le_trans (Nat.le_add_right _ 2) hB3) hlow).setCell (p := ⟨wo.heap.size + 1, 8, none⟩) (Nat.le_succ _) (.slice (some ⟨g', 0, none⟩) (k4 + 1) cap')
            rw [← cellsX_snoc] at own5
            have hM5 : Maps9 (w4.setCell ⟨wo.heap.size + 1, 8, none⟩ (.slice (some ⟨g', 0, none⟩) (k4 + 1) cap')) (XL ++ [((k4 : Int), .slice (some ⟨wr.heap.size, 0, none⟩) 4 4, .slice (some ⟨wr.heap.size + 1, 0, none⟩) 2 2)]) :=
              Maps9.snoc (fun q h => (MapIn.grown (HM2.out q h) own2 (by decide) gr4).set BM4 (by decide) 8 _) (by rw [HXL.out]; exact (MapIn.grown HMN.out own2 (by decide) gr4).set BM4 (by decide) 8 _)
            have hl5 : (XL ++ [((k4 : Int), (Value.slice (some ⟨wr.heap.size, 0, none⟩) 4 4), (Value.slice (some ⟨wr.heap.size + 1, 0, none⟩) 2 2))]).length = k4 + 1 := by rw [List.length_append, HXL.out]; rfl
            go_roundw
            case rel => exact ⟨k4 + 1, _, _, by omega, by go_num, hl5, BM5, ownC5, own5, hM5, bel5⟩
            case measure => simp [intOf]; omega
          have HK4 : Hid (k4 = nx) := by show _ = _; omega
          have BC := blk_up BK fb (by omega)
          have oM := own_later ownM fb
          have x5 := blk_cell BC 5
          have y0 := blk_cell BM 0
          have y1 := blk_cell BM 1
          have y2 := blk_cell BM 2
          have y3 := blk_cell BM 3
          have y4 := blk_cell BM 4
          have y5 := blk_cell BM 5
          have y6 := blk_cell BM 6
          have y7 := blk_cell BM 7
          have y8 := blk_cell BM 8
          have y9 := blk_cell BM 9
          simp only [List.getElem?_toArray, List.getElem?_cons_zero, List.getElem?_cons_succ] at x5 y0 y1 y2 y3 y4 y5 y6 y7 y8 y9
          have oM2 := oM.alloc (.cells #[.string (nmS 109 k2), .slice none 0 0, .string ⟨#[86]⟩, .bool true, .bool false, .int .i64 4, .int .i64 2, v7', v8, .slice none 0 0] 46)
          have f1' := alloc1 wr (.cells #[.string (nmS 109 k2), .slice none 0 0, .string ⟨#[86]⟩, .bool true, .bool false, .int .i64 4, .int .i64 2, v7', v8, .slice none 0 0] 46)
          have hnews := news_lit wr (mcells k2 (v7', v8)) 46
          have BC2 := blk_on BC f1'
          have kw := (hbel.trans (fb.mono hbel.size))
          have k1' := kw.trans (f1'.mono kw.size)
          have hne : some w2.heap.size ≠ v5.ownBlock := fun e => by have := (ownM.lt _ e.symm).1; omega
          have hB1 := Nat.le_trans hB0 (Nat.le_trans fb.size f1'.size)
          have hlow := fun g e => Nat.le_trans (Nat.le_succ _) (ownM.lt g e).1
          have hone := oneCM k2 (v7', v8) (own_one ownC) (own_one own)
          have HIO : Hid (InnerOK wr (w2.heap.size + 1) nc nx (v7', v8)) := by
            have h0 : InnerOK wr (wo.heap.size + 2) nc nx (v7', v8) := ⟨ownC, XL, by rw [HXL.out, HK4.out], by rw [← HK4.out]; exact own, HM9.out⟩
            exact h0.low (by omega)
          clear HM9 HXL HK4
          obtain ⟨qa, qc, rfl⟩ : ∃ a c, v7' = .slice a nc c := by
            rcases ownC.2 with ⟨rfl, h0⟩ | ⟨g, cap, cur, rfl, _⟩
            · omega
            · exact ⟨_, cap, rfl⟩
          obtain ⟨ra, rc, rfl⟩ : ∃ a c, v8 = .slice a k4 c := by
            rcases own.2 with ⟨rfl, h0⟩ | ⟨g, cap, cur, rfl, _⟩
            · exact ⟨none, 0, by rw [h0]⟩
            · exact ⟨_, cap, rfl⟩
          go_wp2_with (at_builtin; refine wpList_append_lies _ rfl (.tmp 89) (.tmp 91) 24 rfl (w2.heap.size + 1) 46 iM (.agg #[.string ⟨#[]⟩, .slice none 0 0, .string ⟨#[]⟩, .bool false, .bool false, .int .i64 0, .int .i64 0, .slice none 0 0, .slice none 0 0, .slice none 0 0]) 10 152 Tryz.underlying24 hiM hzM0 hzM1 hzM2 rfl (by decide) _ k2 (cellsM 0 TL) rfl oM2 ⟨wr.heap.size, 0, none⟩ 1 1 (mcells k2 (.slice qa nc qc, .slice ra k4 rc)) rfl rfl hnews hone (by decide) (by unfold maxLen; omega) (by omega) hB1 _ rfl ?_; intro g' cap' w4 own4 gr4 hat hlt; have BC4 := blk_grown BC2 gr4 hne; have z := blk_cell BC4 5; have z' := blk_free BC4 5; simp only [List.getElem?_toArray, List.getElem?_cons_zero, List.getElem?_cons_succ] at z)
          have BC5 : (w4.setCell ⟨w2.heap.size, 5, none⟩ (.slice (some ⟨g', 0, none⟩) (k2 + 1) cap')).heap[w2.heap.size]? = some (.cells #[.string ⟨#[65, 98]⟩, .string ⟨#[79, 98, 106, 101, 99, 116]⟩, .bool false, .slice none 0 0, .slice (some ⟨b4, 0, none⟩) 1 1, (.slice (some ⟨g', 0, none⟩) (k2 + 1) cap')] 26 (0, 0)) := blk_set BC4 5 _
          have oM5 := ownsRow_setCell_below own4 (a := ⟨w2.heap.size, 5, none⟩) (Nat.lt_succ_self _) (.slice (some ⟨g', 0, none⟩) (k2 + 1) cap')
          have bel5 := (k1'.grown gr4 (Nat.le_trans (Nat.le_succ _) hB1) hlow).setCell (p := ⟨w2.heap.size, 5, none⟩) (Nat.le_refl _) (.slice (some ⟨g', 0, none⟩) (k2 + 1) cap')
          have eM : cellsM 0 TL ++ mcells k2 (.slice qa nc qc, .slice ra k4 rc) = cellsM 0 (TL ++ [(.slice qa nc qc, .slice ra k4 rc)]) := by rw [cellsM_snoc, HTL.out, Nat.zero_add]
          rw [eM] at oM5
          have hIN5 : ∀ t ∈ TL ++ [(.slice qa nc qc, .slice ra k4 rc)], InnerOK (w4.setCell ⟨w2.heap.size, 5, none⟩ (.slice (some ⟨g', 0, none⟩) (k2 + 1) cap')) (w2.heap.size + 1) nc nx t := by
            intro t ht
            have h0 : InnerOK wr (w2.heap.size + 1) nc nx t := by
              rcases List.mem_append.1 ht with ht | ht
              · exact InnerOK.later (HIN.out t ht) fb
              · obtain rfl : t = (.slice qa nc qc, .slice ra k4 rc) := by simpa using ht
                exact HIO.out
            exact ((h0.later f1').grown oM2 gr4).set BC4 5 _
          have hl5 : (TL ++ [((.slice qa nc qc : Value), (.slice ra k4 rc : Value))]).length = k2 + 1 := by rw [List.length_append, HTL.out]; rfl
          clear HIN HIO
          go_roundw
          case rel => exact ⟨k2 + 1, _, _, by omega, by go_num, hl5, BC5, oM5, hIN5, bel5⟩
          case measure => simp [intOf]; omega
    obtain rfl : nm = k2 := by omega
    have hFD := Sl.later fieldE_stable HFD.out hbel
    have VC := long_cls c0 HTL.out hFD ownM HIN.out
    clear HFD hFD HIN HTL
    have hmay := HMAY.out
    have hok := may_ok hmay
    have hfit := may_fits hmay
    obtain ⟨sa, sc, rfl⟩ : ∃ a c, v5 = .slice a nm c := by
      rcases ownM.2 with ⟨rfl, h0⟩ | ⟨g, cap, cur, rfl, _⟩
      · omega
      · exact ⟨_, cap, rfl⟩
    have hencS : encodeL (longL nm nc nx) = [] ∨ encodeL (longL nm nc nx) = bytesL (longL nm nc nx) ∧ (bytesL (longL nm nc nx)).length ≤ 6000 := by
      unfold encodeL
      split
      · next h => exact .inr ⟨rfl, h.2⟩
      · exact .inl rfl
    have hencL : (bytesL (longL nm nc nx)).length ≤ 6000 → encodeL (longL nm nc nx) = bytesL (longL nm nc nx) := fun h => by unfold encodeL; rw [if_pos ⟨hmay, h⟩]
    have hencN : ¬ (bytesL (longL nm nc nx)).length ≤ 6000 → encodeL (longL nm nc nx) = [] := fun h => by unfold encodeL; rw [if_neg (fun h' => h h'.2)]
    have hbb := bytesL_bytes _ hok
    have hpos : 0 < (bytesL (longL nm nc nx)).length := by unfold bytesL whole; simp [magic]
    have hback := fun (W W' : World) (e : Ending) => decoded_back (w := W) (w' := W') (e := e) (c := longL nm nc nx) hmay
    have HE := fun W (b : Below wo.heap.size wo W) => encode_any _ _ _ _ W (VC.later b)
    have HB := fun W (b : Below wo.heap.size wo W) => bytes_any ⟨#[65, 98]⟩ ⟨#[79, 98, 106, 101, 99, 116]⟩ false [] [oneF] ((List.range nm).map (longM nc nx)) none (some ⟨b4, 0, none⟩) sa 0 1 sc W (by have := VC.later b; simpa [longL] using this) hok hfit.2
    have HQ := fun W (b : Below wo.heap.size wo W) (v3 v4 v5 : Value) (h : ClsV W v3 v4 v5 (longL nm nc nx)) => VC.later b
    unfold clsVal at HE
    have hlm : ((List.range nm).map (longM nc nx)).length = nm := by simp
    simp only [longL, hlm, List.length_nil, List.length_cons, Nat.zero_add] at HE HB
    generalize hxs : bytesL (⟨⟨#[65, 98]⟩, ⟨#[79, 98, 106, 101, 99, 116]⟩, false, [], [oneF], (List.range nm).map (longM nc nx)⟩ : ClsL) = xs at HB
    generalize hes : encodeL (⟨⟨#[65, 98]⟩, ⟨#[79, 98, 106, 101, 99, 116]⟩, false, [], [oneF], (List.range nm).map (longM nc nx)⟩ : ClsL) = es at HE
    have hxs' : bytesL (longL nm nc nx) = xs := hxs
    have hes' : encodeL (longL nm nc nx) = es := hes
    rw [hxs'] at hencL hencN hbb hpos hback
    rw [hes'] at hencL hencN
    have HVC : Hid _ := VC
    clear hxs hes hxs' hes' hencS HQ hfit hok hmay HMAY VC ownM hlk hk2
    have HBK : Hid _ := BK
    have kk : Below wo.heap.size wo wo.drew := (Below.refl _ _).drew
    have x0 := blk_cell BK 0
    have x1 := blk_cell BK 1
    have x2 := blk_cell BK 2
    have x3 := blk_cell BK 3
    have x4 := blk_cell BK 4
    have x5 := blk_cell BK 5
    simp only [List.getElem?_toArray, List.getElem?_cons_zero, List.getElem?_cons_succ] at x0 x1 x2 x3 x4 x5
    go_upto_region 22 with fail
    go_region_held (fun W' => W'.cell? ⟨w2.heap.size, 0, none⟩ = some (.string ⟨#[65, 98]⟩) ∧ W'.cell? ⟨w2.heap.size, 1, none⟩ = some (.string ⟨#[79, 98, 106, 101, 99, 116]⟩) ∧ W'.cell? ⟨w2.heap.size, 2, none⟩ = some (.bool false) ∧ W'.cell? ⟨w2.heap.size, 3, none⟩ = some (.slice none 0 0) ∧ W'.cell? ⟨w2.heap.size, 4, none⟩ = some (.slice (some ⟨b4, 0, none⟩) 1 1) ∧ W'.cell? ⟨w2.heap.size, 5, none⟩ = some (.slice sa nm sc)) (first | assumption | exact ⟨cellOn x0 kk, cellOn x1 kk, cellOn x2 kk, cellOn x3 kk, cellOn x4 kk, cellOn x5 kk⟩) (first | (go_at_call 10; refine (HE _ kk).mono ?_; rintro e wE ⟨vE, rfl, ownE, hnil, bE⟩; have kk := kk.trans (bE.mono kk.size)) | (go_at_call 12; refine (HB _ kk).mono ?_; rintro e wB ⟨gB, capB, rfl, ownB, bB⟩; have kk := kk.trans (bB.mono kk.size)))
    have e12 := e1.trans (e2.mono e1.size)
    have e1o := e12.trans (hbel.mono e12.size)
    have e1B := e1o.trans (kk.mono e1o.size)
    clear x0 x1 x2 x3 x4 x5
    by_cases hl : xs.length ≤ 6000
    case neg =>
      have he := hencN hl
      subst he
      obtain rfl := hnil rfl
      have dd : decide ((6000 : Int) < (xs.length : Int)) = true := by simp; omega
      clear hencL hencN hback hnil HE HB hl
      go_wp2_with fail
      go_ret
      exact ⟨rfl, e1B⟩
    have he := hencL hl
    subst he
    obtain ⟨gE, capE, rfl, _, _⟩ := ownE.form hpos
    have hRE := (Has.own ownE).later bB
    have hRB := Has.own ownB
    have dd : decide ((6000 : Int) < (es.length : Int)) = false := by simp; omega
    have HD := decode_any _ _ _ es wB hRE hbb
    clear hencL hencN hnil HE HB
    go_wp2_with fail
    refine HD.mono ?_
    rintro e w6 ⟨hD, b6⟩
    obtain ⟨us, rfl, hN⟩ := hback _ _ _ hl hD
    obtain ⟨v3, v4, v5, hus, hV4⟩ := hN.cls
    simp only [longL] at hus hV4
    obtain ⟨q3, d3, e3, _⟩ := id hV4.impl
    obtain ⟨q4, d4, e4, _⟩ := id hV4.fields
    obtain ⟨q5, d5, e5, _⟩ := id hV4.methods
    simp only [List.length_nil, List.length_cons, Nat.zero_add, hlm] at e3 e4 e5
    subst e3 e4 e5 hus
    clear hback HD hD hN
    have kd := alloc1 w6 (.cells #[.string ⟨#[65, 98]⟩, .string ⟨#[79, 98, 106, 101, 99, 116]⟩, .bool false, .slice q3 0 d3, .slice q4 1 d4, .slice q5 nm d5] 26)
    have BD := blk_new w6 #[.string ⟨#[65, 98]⟩, .string ⟨#[79, 98, 106, 101, 99, 116]⟩, .bool false, .slice q3 0 d3, .slice q4 1 d4, .slice q5 nm d5] 26
    have b67 := b6.trans (kd.mono b6.size)
    have k67 := kk.trans (b67.mono kk.size)
    have hs1 := (hRE.later b67).str
    have hs2 := (hRB.later b67).str
    have hVC := ClsV.later HVC.out k67
    have hVD := hV4.later kd
    have BC7 := blk_on HBK.out k67
    have e17 := e1B.trans (b67.mono e1B.size)
    have x0 := blk_cell BC7 0
    have x1 := blk_cell BC7 1
    have x2 := blk_cell BC7 2
    have x3 := blk_cell BC7 3
    have x4 := blk_cell BC7 4
    have x5 := blk_cell BC7 5
    simp only [List.getElem?_toArray, List.getElem?_cons_zero, List.getElem?_cons_succ] at x0 x1 x2 x3 x4 x5
    have HC9 := ecls_same ⟨#[65, 98]⟩ ⟨#[79, 98, 106, 101, 99, 116]⟩ false [] [oneF] ((List.range nm).map (longM nc nx)) none (some ⟨b4, 0, none⟩) sa q3 q4 q5 0 1 sc d3 d4 d5 _ (by simpa [longL] using hVC) (by simpa [longL] using hVD)
    simp only [List.length_nil, List.length_cons, Nat.zero_add, hlm] at HC9
    clear hVC hVD hV4 hRE hRB HVC HBK
    go_wp2_with fail
    refine HC9.mono ?_
    rintro e w9 ⟨rfl, b9⟩
    clear HC9
    go_wp2_with fail
    go_ret
    exact ⟨rfl, e17.trans (b9.mono e17.size)⟩
theorem walk (m c x : Int) (w : World) (h0 : (Lit.int .i64 m).wf = true) (h1 : (Lit.int .i64 c).wf = true) (h2 : (Lit.int .i64 x).wf = true) :
    Calls Tryz.prog 6 #[.int .i64 m, .int .i64 c, .int .i64 x] w fun e w' => e = .returned (.bool true) ∧ Below w.heap.size w w' := by
  by_cases h : (1 ≤ m ∧ m ≤ 8 ∧ 1 ≤ c ∧ c ≤ 100 ∧ 0 ≤ x ∧ x ≤ c)
  · obtain ⟨a1, a2, a3, a4, a5, a6⟩ := h
    obtain ⟨m, rfl⟩ := Int.eq_ofNat_of_zero_le (show 0 ≤ m by omega)
    obtain ⟨c, rfl⟩ := Int.eq_ofNat_of_zero_le (show 0 ≤ c by omega)
    obtain ⟨x, rfl⟩ := Int.eq_ofNat_of_zero_le a5
    exact near m c x w (by omega) (by omega) (by omega) (by omega) (by omega)
  · exact far m c x w h
/-! ### The row -/
theorem own : ownKnob Tryz.prog.godebug = none := by kernel_rfl
theorem laidOut : laidOutB Tryz.prog = true := by kernel_rfl
set_option maxRecDepth 100000 in
theorem lifted (os : Os) (started : os.Started) (H : Type) (enc : TypeId × Value → H) :
    ReturnsInHanded {} Tryz.checked os 6 .any (Rows.fileLongSpec.pre6 enc Tryz.prog Tryz.f6 Rows.fileLongRow.domain false) (Rows.fileLongSpec.post enc Tryz.prog Tryz.f6 false true false false) := by
  refine returnsInHanded_of_change (C := Tryz.checked) own started (by kernel_rfl) Tryz.func6
    (ChangeSpec.witness6 (enc := enc) (C := Tryz.checked) false ⟨#[], #[.int .i64 0, .int .i64 0, .int .i64 0], []⟩ 8 (by kernel_rfl) (by kernel_rfl) (by kernel_rfl) (by kernel_rfl)) ?_
  intro W base args ds gs before hval0 hW hcnd _
  have hval : ∀ (j : Nat) t v, Tryz.f6.params[j]? = some t → args[j]? = some v → Value.okWide Tryz.prog W .any base t v := hval0
  have hW' := hW
  obtain ⟨p, q, hA0, hV, rfl, hfz, hnd⟩ := hW
  have hA : DataW.TrodAll enc Tryz.prog W 0 (fun _ => true) true Tryz.f6.params.toList args.toList ds p := hA0
  rw [Tryz.params6] at hA hval
  obtain ⟨v0, vs0, d0, ds0, p0, q0, hargs, rfl, rfl, h0, r0⟩ := trodAll_cons hA
  obtain ⟨v1, vs1, d1, ds1, p1, q1, rfl, rfl, rfl, h1, r1⟩ := trodAll_cons r0
  obtain ⟨v2, vs2, d2, ds2, p2, q2, rfl, rfl, rfl, h2, r2⟩ := trodAll_cons r1
  obtain ⟨rfl, rfl, rfl⟩ := trodAll_nil r2
  obtain rfl : args = #[v0, v1, v2] := by cases args; simp_all
  obtain ⟨rfl, rfl⟩ := trodVars_none hV
  obtain ⟨a0, rfl, rfl, rfl, w0⟩ := open_int Tryz.underlying3 (hval 0 3 v0 rfl rfl) h0
  obtain ⟨a1, rfl, rfl, rfl, w1⟩ := open_int Tryz.underlying3 (hval 1 3 v1 rfl rfl) h1
  obtain ⟨a2, rfl, rfl, rfl, w2⟩ := open_int Tryz.underlying3 (hval 2 3 v2 rfl rfl) h2
  clear hA0 hval0
  refine (walk a0 a1 a2 W w0 w1 w2).mono fun e W' ⟨he, bel⟩ => ?_
  subst he
  exact ⟨_, rfl, _, _, _, [], _, [], hW', trodAll_mk1 (shut_bool Tryz.underlying4 _), (trodAll_cons_mk (shut_int Tryz.underlying3 w0) (trodAll_cons_mk (shut_int Tryz.underlying3 w1) (trodAll_cons_mk (shut_int Tryz.underlying3 w2) trodAll_mk0))), rfl, bel.frame _, fun h => by cases h⟩

theorem over : Rows.fileLongRow.holds Tryz.pinned (OpenSpec.ofChange Rows.fileLongSpec) :=
  OpenClaim.holds_of_wide 6 Tryz.f6 rfl rfl rfl rfl rfl rfl rfl ⟨rfl, rfl, rfl, rfl, rfl⟩ rfl rfl rfl rfl rfl (by kernel_rfl) Tryz.func6 (by kernel_rfl)
    (of_decide_eq_true (by kernel_rfl)) (by unfold Func.isWrapper; first | (rw [if_pos (by decide +kernel)]; kernel_rfl) | (rw [if_neg (by decide +kernel)]; exact ⟨rfl, rfl⟩))
    (fun os started H enc _ => lifted os started H enc)

end FileLong

theorem fileLong_holds : Rows.FileLongSaid := FileLong.over
#print axioms fileLong_holds
end Go.Proofs.YthioaedhabfkgaaGreat
