/- For every two numbers, list of numbers and two texts the law ClassMaps answers true: package class and the document say the same of a method's Maps; no condition on the input. -/
import Derived.Test.YtbfcjflgomedgaaGreatClassMapsA
import Derived.Deep.RegionLaw
import Derived.Deep.RegionWith
import Derived.WalkKit
import Derived.ProofKit
import Derived.OpenShut
import Derived.ShutString
import Derived.ChangeOld
import Derived.Below
namespace Go.Proofs.YtbfcjflgomedgaaGreat
namespace ClassMaps
open Num Kind Op4 Cls
open Go.ChangeShapes Go.WideShapes Go.ChangeAt Go.RowKit
open Go.ChangeMaps (open_string shut_string)
set_option linter.unusedVariables false
set_option linter.unusedSimpArgs false
set_option maxRecDepth 100000

theorem add_block (x : Addr) (i : Nat) : (x.add i).block = x.block := by
  unfold Addr.add
  split <;> rfl
theorem infoX : (Tryz.prog.info? 39).map (fun i => (i.zero, i.size, i.bytes)) = some (some (.agg #[.int .i64 0, .slice none 0 0, .slice none 0 0]), 3, 56) := by kernel_rfl
theorem news_lit (w : World) (cs : List Value) (T : Nat) : ∀ j u, cs[j]? = some u → (w.alloc (.cells cs.toArray T)).cell? ((⟨w.heap.size, 0, none⟩ : Addr).add j) = some u := by
  intro j u h
  rw [Addr.add_lit, Nat.zero_add, cell_new]
  simpa using h
theorem oneCI : ∀ u ∈ i4, u.oneCell' = true := by
  intro u hu
  simp only [i4, List.mem_cons, List.not_mem_nil, or_false] at hu
  rcases hu with rfl | rfl | rfl | rfl <;> rfl
theorem oneCS (a : ByteArray) : ∀ u ∈ [Value.string a], u.oneCell' = true := by
  intro u hu
  simp only [List.mem_cons, List.not_mem_nil, or_false] at hu
  subst hu
  rfl
theorem own_one {w : World} {base e size n : Nat} {v : Value} {xs : List Value} (h : w.ownsRow base e size v n xs) : v.oneCell' = true := by
  rcases h.2 with ⟨rfl, _⟩ | ⟨g, cap, cur, rfl, _⟩ <;> rfl
theorem oneCX (t : X3) (h1 : t.2.1.oneCell' = true) (h2 : t.2.2.oneCell' = true) : ∀ u ∈ xcells t, u.oneCell' = true := by
  intro u hu
  simp only [xcells, List.mem_cons, List.not_mem_nil, or_false] at hu
  rcases hu with rfl | rfl | rfl <;> first | rfl | assumption
def mapsW (w1 : World) (nl nk : Nat) : World :=
  ((((w1.alloc (.cells #[.string ⟨#[65, 98]⟩, .string ⟨#[79, 98, 106, 101, 99, 116]⟩, .bool false, .slice none 0 0, .slice (some ⟨w1.heap.size + 1, 0, none⟩) 1 1, .slice (some ⟨w1.heap.size + 1 + 1 + 1, 0, none⟩) 1 1] 28)).alloc (.cells #[.string ⟨#[120]⟩, .string ⟨#[73]⟩, .bool false] 45)).alloc (.cells #[.int .i64 46, .int .i64 0, .string ⟨#[]⟩, .string ⟨#[]⟩] 37)).alloc (.cells #[.string ⟨#[109, 97, 105, 110]⟩, .slice none 0 0, .string ⟨#[86]⟩, .bool true, .bool false, .int .i64 nl, .int .i64 nk, (.slice (some ⟨w1.heap.size + 1 + 1, 0, none⟩) 1 1), .slice none 0 0, .slice none 0 0] 35)).alloc (.cells #[.string ⟨#[65, 98]⟩, .string ⟨#[79, 98, 106, 101, 99, 116]⟩, .bool false, .slice none 0 0, .slice (some ⟨w1.heap.size + 1, 0, none⟩) 1 1, .slice (some ⟨w1.heap.size + 1 + 1 + 1, 0, none⟩) 1 1] 28)
theorem mapsW_all (w1 : World) (nl nk : Nat) : (mapsW w1 nl nk).heap[w1.heap.size + 1 + 1 + 1 + 1]? = some (.cells #[.string ⟨#[65, 98]⟩, .string ⟨#[79, 98, 106, 101, 99, 116]⟩, .bool false, .slice none 0 0, .slice (some ⟨w1.heap.size + 1, 0, none⟩) 1 1, .slice (some ⟨w1.heap.size + 1 + 1 + 1, 0, none⟩) 1 1] 28 (0, 0)) ∧ (mapsW w1 nl nk).heap[w1.heap.size + 1]? = some (.cells #[.string ⟨#[120]⟩, .string ⟨#[73]⟩, .bool false] 45 (0, 0)) ∧ (mapsW w1 nl nk).heap[w1.heap.size + 1 + 1 + 1]? = some (.cells #[.string ⟨#[109, 97, 105, 110]⟩, .slice none 0 0, .string ⟨#[86]⟩, .bool true, .bool false, .int .i64 nl, .int .i64 nk, (.slice (some ⟨w1.heap.size + 1 + 1, 0, none⟩) 1 1), .slice none 0 0, .slice none 0 0] 35 (0, 0)) ∧ (mapsW w1 nl nk).ownsRow w1.heap.size 37 4 (.slice (some ⟨w1.heap.size + 1 + 1, 0, none⟩) 1 1) 1 (rep i4 1) ∧ Below w1.heap.size w1 (mapsW w1 nl nk) := by
  unfold mapsW
  have e1 := alloc1 w1 (.cells #[.string ⟨#[65, 98]⟩, .string ⟨#[79, 98, 106, 101, 99, 116]⟩, .bool false, .slice none 0 0, .slice (some ⟨w1.heap.size + 1, 0, none⟩) 1 1, .slice (some ⟨w1.heap.size + 1 + 1 + 1, 0, none⟩) 1 1] 28)
  have z1 := alloc_size w1 (.cells #[.string ⟨#[65, 98]⟩, .string ⟨#[79, 98, 106, 101, 99, 116]⟩, .bool false, .slice none 0 0, .slice (some ⟨w1.heap.size + 1, 0, none⟩) 1 1, .slice (some ⟨w1.heap.size + 1 + 1 + 1, 0, none⟩) 1 1] 28)
  generalize w1.alloc (.cells #[.string ⟨#[65, 98]⟩, .string ⟨#[79, 98, 106, 101, 99, 116]⟩, .bool false, .slice none 0 0, .slice (some ⟨w1.heap.size + 1, 0, none⟩) 1 1, .slice (some ⟨w1.heap.size + 1 + 1 + 1, 0, none⟩) 1 1] 28) = W1 at *
  have F := blk_new W1 #[.string ⟨#[120]⟩, .string ⟨#[73]⟩, .bool false] 45
  rw [z1] at F
  have e2 := alloc1 W1 (.cells #[.string ⟨#[120]⟩, .string ⟨#[73]⟩, .bool false] 45)
  have z2 := alloc_size W1 (.cells #[.string ⟨#[120]⟩, .string ⟨#[73]⟩, .bool false] 45)
  generalize W1.alloc (.cells #[.string ⟨#[120]⟩, .string ⟨#[73]⟩, .bool false] 45) = W2 at *
  have C := blk_new W2 #[.int .i64 46, .int .i64 0, .string ⟨#[]⟩, .string ⟨#[]⟩] 37
  rw [z2, z1] at C
  have e3 := alloc1 W2 (.cells #[.int .i64 46, .int .i64 0, .string ⟨#[]⟩, .string ⟨#[]⟩] 37)
  have z3 := alloc_size W2 (.cells #[.int .i64 46, .int .i64 0, .string ⟨#[]⟩, .string ⟨#[]⟩] 37)
  generalize W2.alloc (.cells #[.int .i64 46, .int .i64 0, .string ⟨#[]⟩, .string ⟨#[]⟩] 37) = W3 at *
  have M := blk_new W3 #[.string ⟨#[109, 97, 105, 110]⟩, .slice none 0 0, .string ⟨#[86]⟩, .bool true, .bool false, .int .i64 nl, .int .i64 nk, (.slice (some ⟨w1.heap.size + 1 + 1, 0, none⟩) 1 1), .slice none 0 0, .slice none 0 0] 35
  rw [z3, z2, z1] at M
  have e4 := alloc1 W3 (.cells #[.string ⟨#[109, 97, 105, 110]⟩, .slice none 0 0, .string ⟨#[86]⟩, .bool true, .bool false, .int .i64 nl, .int .i64 nk, (.slice (some ⟨w1.heap.size + 1 + 1, 0, none⟩) 1 1), .slice none 0 0, .slice none 0 0] 35)
  have z4 := alloc_size W3 (.cells #[.string ⟨#[109, 97, 105, 110]⟩, .slice none 0 0, .string ⟨#[86]⟩, .bool true, .bool false, .int .i64 nl, .int .i64 nk, (.slice (some ⟨w1.heap.size + 1 + 1, 0, none⟩) 1 1), .slice none 0 0, .slice none 0 0] 35)
  generalize W3.alloc (.cells #[.string ⟨#[109, 97, 105, 110]⟩, .slice none 0 0, .string ⟨#[86]⟩, .bool true, .bool false, .int .i64 nl, .int .i64 nk, (.slice (some ⟨w1.heap.size + 1 + 1, 0, none⟩) 1 1), .slice none 0 0, .slice none 0 0] 35) = W4 at *
  have K := blk_new W4 #[.string ⟨#[65, 98]⟩, .string ⟨#[79, 98, 106, 101, 99, 116]⟩, .bool false, .slice none 0 0, .slice (some ⟨w1.heap.size + 1, 0, none⟩) 1 1, .slice (some ⟨w1.heap.size + 1 + 1 + 1, 0, none⟩) 1 1] 28
  rw [z4, z3, z2, z1] at K
  have e5 := alloc1 W4 (.cells #[.string ⟨#[65, 98]⟩, .string ⟨#[79, 98, 106, 101, 99, 116]⟩, .bool false, .slice none 0 0, .slice (some ⟨w1.heap.size + 1, 0, none⟩) 1 1, .slice (some ⟨w1.heap.size + 1 + 1 + 1, 0, none⟩) 1 1] 28)
  generalize W4.alloc (.cells #[.string ⟨#[65, 98]⟩, .string ⟨#[79, 98, 106, 101, 99, 116]⟩, .bool false, .slice none 0 0, .slice (some ⟨w1.heap.size + 1, 0, none⟩) 1 1, .slice (some ⟨w1.heap.size + 1 + 1 + 1, 0, none⟩) 1 1] 28) = W5 at *
  have k35 := e4.trans (e5.mono e4.size)
  have k25 := e3.trans (k35.mono e3.size)
  have k15 := e2.trans (k25.mono e2.size)
  refine ⟨K, blk_on F k25, blk_on M e5, ?_, e1.trans (k15.mono e1.size)⟩
  have C5 := blk_on C k35
  exact ⟨rfl, .inr ⟨w1.heap.size + 1 + 1, 1, _, rfl, by omega, C5, by omega, by decide, rfl, rfl⟩⟩

set_option maxHeartbeats 16000000 in
theorem near (nl nk : Nat) (pa : Option Addr) (len cap : Nat) (z : List Int) (a b : ByteArray) (w : World) (l1 : nl ≤ 18) (k1 : nk ≤ 18) (hrow : IsRow .i64 w pa len cap z) (ha : a.size ≤ 12) (hb : b.size ≤ 12) :
    Calls Tryz.prog 3 #[.int .i64 nl, .int .i64 nk, .slice pa len cap, .string a, .string b] w fun e w' => e = .returned (.bool true) ∧ Below w.heap.size w w' := by
  obtain ⟨iS, hiS, hzS0, hzS1, hzS2⟩ := info_parts infoS
  obtain ⟨iI, hiI, hzI0, hzI1, hzI2⟩ := info_parts infoI
  obtain ⟨iX, hiX, hzX0, hzX1, hzX2⟩ := info_parts infoX
  have hcap : len ≤ cap ∧ cap ≤ maxLen := by
    rcases hrow with ⟨_, rfl, rfl, _⟩ | ⟨x, _, h1, h2, _⟩
    · exact ⟨Nat.le_refl _, Nat.zero_le _⟩
    · exact ⟨h1, h2⟩
  have HROW : Hid (∀ i, i < len → ∃ x : Addr, pa = some x ∧ w.cell? (x.add i) = some (.int .i64 (z.getD i 0)) ∧ x.block < w.heap.size) := fun i hi => by
    rcases hrow with ⟨_, rfl, _⟩ | ⟨x, h0, h1, h2, h3, h4, _⟩
    · omega
    · have hc := h4 i (by omega)
      refine ⟨x, h0, hc, ?_⟩
      rcases Nat.lt_or_ge x.block w.heap.size with h | h
      · exact h
      · have e : w.heap[(x.add i).block]? = none := Array.getElem?_eq_none (by rw [add_block]; exact h)
        simp [World.cell?, e] at hc
  obtain ⟨hcp1, hcp2⟩ := hcap
  unfold maxLen at hcp2
  clear hrow
  have d0 : decide ((nl : Int) < 0) = false := by simp
  have d1 : decide (18 < (nl : Int)) = false := by simp; omega
  have d2 : decide ((nk : Int) < 0) = false := by simp
  have d3 : decide (18 < (nk : Int)) = false := by simp; omega
  have d4 : decide (12 < (a.size : Int)) = false := by simp; omega
  have d5 : decide (12 < (b.size : Int)) = false := by simp; omega
  go_enter Tryz.func3, Tryz.ntmps3
  go_wp2_with fail
  refine (Cls.begun_any _).mono ?_
  rintro e w1 ⟨rfl, e1⟩
  go_upto_region 6 with fail
  clear d0 d1 d2 d3 d4 d5
  go_upto_region 9 with (go_at_call 5; refine (one_any _ _).mono ?_; rintro e w' ⟨rfl, rfl⟩; simp only [oneC, oneW])
  show Code.wp _ _ _ _ (mapsW w1 nl nk)
  obtain ⟨BC, BF, BM, own, e2⟩ := mapsW_all w1 nl nk
  generalize mapsW w1 nl nk = W2 at *
  go_wp2_with fail
  go_loopw [14] (fun i wr => ∃ (k : Nat) (v7 : Value), k ≤ 9 ∧ i = .int .i64 k ∧ wr.heap[w1.heap.size + 1 + 1 + 1 + 1]? = some (.cells #[.string ⟨#[65, 98]⟩, .string ⟨#[79, 98, 106, 101, 99, 116]⟩, .bool false, .slice none 0 0, .slice (some ⟨w1.heap.size + 1, 0, none⟩) 1 1, .slice (some ⟨w1.heap.size + 1 + 1 + 1, 0, none⟩) 1 1] 28 (0, 0)) ∧ wr.heap[w1.heap.size + 1]? = some (.cells #[.string ⟨#[120]⟩, .string ⟨#[73]⟩, .bool false] 45 (0, 0)) ∧ wr.heap[w1.heap.size + 1 + 1 + 1]? = some (.cells #[.string ⟨#[109, 97, 105, 110]⟩, .slice none 0 0, .string ⟨#[86]⟩, .bool true, .bool false, .int .i64 nl, .int .i64 nk, v7, .slice none 0 0, .slice none 0 0] 35 (0, 0)) ∧ wr.ownsRow w1.heap.size 37 4 v7 (k + 1) (rep i4 (k + 1)) ∧ Below w1.heap.size w1 wr) (fun i _ => 9 - (intOf i).toNat)
  case atStart => exact ⟨0, _, by omega, rfl, BC, BF, BM, own, e2⟩
  case round =>
    clear BC BF BM own e2
    obtain ⟨k, v7, hk, rfl, BC, BF, BM, own, hbel⟩ := hrel
    by_cases hlk : k < 9
    case pos =>
      have x := blk_cell BM 7
      simp only [List.getElem?_toArray, List.getElem?_cons_zero, List.getElem?_cons_succ] at x
      have own2 := own.alloc (.cells #[.int .i64 46, .int .i64 0, .string ⟨#[]⟩, .string ⟨#[]⟩] 37)
      have hnews := news_lit wr i4 37
      have f1' := alloc1 wr (.cells #[.int .i64 46, .int .i64 0, .string ⟨#[]⟩, .string ⟨#[]⟩] 37)
      have BM2 := blk_on BM f1'
      have BC2 := blk_on BC f1'
      have BF2 := blk_on BF f1'
      have k1' := hbel.trans (f1'.mono hbel.size)
      have hneM := own_ne_blk own2 BM2 (by decide)
      have hneC := own_ne_blk own2 BC2 (by decide)
      have hneF := own_ne_blk own2 BF2 (by decide)
      have hB3 : w1.heap.size ≤ (wr.alloc (.cells #[.int .i64 46, .int .i64 0, .string ⟨#[]⟩, .string ⟨#[]⟩] 37)).heap.size := k1'.size
      have hlow := fun g e => (own.lt g e).1
      go_wp2_with (at_builtin; refine wpList_append_lies _ rfl (.tmp 65) (.tmp 67) 31 rfl (w1.heap.size) 37 iI (.agg #[.int .i64 0, .int .i64 0, .string ⟨#[]⟩, .string ⟨#[]⟩]) 4 48 Tryz.underlying31 hiI hzI0 hzI1 hzI2 rfl (by decide) _ (k + 1) (rep i4 (k + 1)) rfl own2 ⟨wr.heap.size, 0, none⟩ 1 1 (i4) rfl rfl hnews oneCI (by decide) (by unfold maxLen; omega) (by omega) hB3 _ rfl ?_; intro g' cap' w4 own4 g4 hat hlt; have BM4 := blk_grown BM2 g4 hneM; have z := blk_cell BM4 7; have z' := blk_free BM4 7; simp only [List.getElem?_toArray, List.getElem?_cons_zero, List.getElem?_cons_succ] at z)
      have BM5 : (w4.setCell ⟨w1.heap.size + 1 + 1 + 1, 7, none⟩ (.slice (some ⟨g', 0, none⟩) (k + 1 + 1) cap')).heap[w1.heap.size + 1 + 1 + 1]? = some (.cells #[.string ⟨#[109, 97, 105, 110]⟩, .slice none 0 0, .string ⟨#[86]⟩, .bool true, .bool false, .int .i64 nl, .int .i64 nk, (.slice (some ⟨g', 0, none⟩) (k + 1 + 1) cap'), .slice none 0 0, .slice none 0 0] 35 (0, 0)) := blk_set BM4 7 _
      have BC5 := blk_other (blk_grown BC2 g4 hneC) (a := ⟨w1.heap.size + 1 + 1 + 1, 7, none⟩) (.slice (some ⟨g', 0, none⟩) (k + 1 + 1) cap') (by show w1.heap.size + 1 + 1 + 1 + 1 ≠ w1.heap.size + 1 + 1 + 1; omega)
      have BF5 := blk_other (blk_grown BF2 g4 hneF) (a := ⟨w1.heap.size + 1 + 1 + 1, 7, none⟩) (.slice (some ⟨g', 0, none⟩) (k + 1 + 1) cap') (by show w1.heap.size + 1 ≠ w1.heap.size + 1 + 1 + 1; omega)
      have own5 := ownsRow_setCell_other own4 (a := ⟨w1.heap.size + 1 + 1 + 1, 7, none⟩) (fun e => own_ne_blk own4 BM4 (by decide) e.symm) (.slice (some ⟨g', 0, none⟩) (k + 1 + 1) cap')
      have bel5 := (k1'.grown g4 hB3 hlow).setCell (p := ⟨w1.heap.size + 1 + 1 + 1, 7, none⟩) (by show w1.heap.size ≤ w1.heap.size + 1 + 1 + 1; omega) (.slice (some ⟨g', 0, none⟩) (k + 1 + 1) cap')
      go_roundw
      case rel => exact ⟨k + 1, _, by omega, by go_num, BC5, BF5, BM5, own5, bel5⟩
      case measure => simp [intOf]; omega
    obtain ⟨kc, rfl⟩ : ∃ x, x = k := ⟨_, rfl⟩
    have HK9 : Hid (kc = 9) := by show _ = _; omega
    have own7 := own
    clear own
    go_wp2_with fail
    go_loopw [15] (fun i wr => ∃ (k : Nat) (v8 : Value) (XL : List X3), k ≤ len ∧ i = .int .i64 k ∧ XL.length = k ∧ k ≤ 4 ∧ wr.heap[w1.heap.size + 1 + 1 + 1 + 1]? = some (.cells #[.string ⟨#[65, 98]⟩, .string ⟨#[79, 98, 106, 101, 99, 116]⟩, .bool false, .slice none 0 0, .slice (some ⟨w1.heap.size + 1, 0, none⟩) 1 1, .slice (some ⟨w1.heap.size + 1 + 1 + 1, 0, none⟩) 1 1] 28 (0, 0)) ∧ wr.heap[w1.heap.size + 1]? = some (.cells #[.string ⟨#[120]⟩, .string ⟨#[73]⟩, .bool false] 45 (0, 0)) ∧ wr.heap[w1.heap.size + 1 + 1 + 1]? = some (.cells #[.string ⟨#[109, 97, 105, 110]⟩, .slice none 0 0, .string ⟨#[86]⟩, .bool true, .bool false, .int .i64 nl, .int .i64 nk, v7, v8, .slice none 0 0] 35 (0, 0)) ∧ wr.ownsRow w1.heap.size 37 4 v7 (kc + 1) (rep i4 (kc + 1)) ∧ wr.ownsRow w1.heap.size 39 3 v8 k (cellsX XL) ∧ (∀ t ∈ XL, InnX wr w1.heap.size nl a b t) ∧ Below w1.heap.size w1 wr) (fun i _ => len - (intOf i).toNat)
    case atStart => exact ⟨0, _, [], by omega, rfl, rfl, by omega, BC, BF, BM, own7, World.ownsRow_nil _ _ _ _, fun t ht => (by cases ht), hbel⟩
    case round =>
      clear BC BF BM own7 hbel hlk hk
      obtain ⟨k, v8, XL, hk, rfl, hXL, hk4, BC, BF, BM, own7, own8, hIN, hbel⟩ := hrel
      have HIN : Hid _ := hIN
      have HXL : Hid _ := hXL
      clear hIN hXL
      rename World => wo
      have kw := e1.trans (hbel.mono e1.size)
      by_cases hgo : k < len ∧ k < 4
      case pos =>
        obtain ⟨hgo1, hgo2⟩ := hgo
        obtain ⟨x, hpa, hcx, hxb⟩ := HROW.out k hgo1
        subst hpa
        have hcx2 := (kw.cell (p := x.add k) (by rw [add_block]; exact hxb)).trans hcx
        generalize z.getD k 0 = zv at *
        clear hcx
        have g1 : decide ((k : Int) < (len : Int)) = true := by simp; omega
        have g2 : decide ((k : Int) < 4) = true := by simp; omega
        have g3 : decide (k < len) = true := by simp; omega
        have BX := blk_new wo #[.int .i64 zv, .slice none 0 0, .slice none 0 0] 39
        have fb := alloc1 wo (.cells #[.int .i64 zv, .slice none 0 0, .slice none 0 0] 39)
        go_wp2_with fail
        go_loopw [17] (fun i wr => ∃ (k3 : Nat) (vL : Value), k3 ≤ nl ∧ i = .int .i64 k3 ∧ wr.heap[wo.heap.size]? = some (.cells #[.int .i64 zv, vL, .slice none 0 0] 39 (0, 0)) ∧ wr.ownsRow (wo.heap.size + 1) 9 1 vL k3 (rep [.string a] k3) ∧ Below wo.heap.size wo wr) (fun i _ => nl - (intOf i).toNat)
        case atStart => exact ⟨0, _, by omega, rfl, BX, World.ownsRow_nil _ _ _ _, fb⟩
        case round =>
          clear BX fb hcx2
          obtain ⟨k3, vL, hk3, rfl, BX, own, fb⟩ := hrel
          by_cases hl3 : k3 < nl
          case pos =>
            have x1 := blk_cell BX 1
            simp only [List.getElem?_toArray, List.getElem?_cons_zero, List.getElem?_cons_succ] at x1
            have own2 := own.alloc (.cells #[.string a] 9)
            have hnews := news_lit wr [.string a] 9
            have f1' := alloc1 wr (.cells #[.string a] 9)
            have BX2 := blk_on BX f1'
            have k1' := fb.trans (f1'.mono fb.size)
            have hne := own_ne_blk own2 BX2 (by decide)
            have hB2 : wo.heap.size + 1 ≤ wr.heap.size := lt_of_block BX
            have hB3 := Nat.le_trans hB2 f1'.size
            have hlow := fun g e => Nat.le_trans (Nat.le_succ _) (own.lt g e).1
            go_wp2_with (at_builtin; refine wpList_append_lies _ rfl (.tmp 92) (.tmp 94) 24 rfl (wo.heap.size + 1) 9 iS (.string ⟨#[]⟩) 1 16 Tryz.underlying24 hiS hzS0 hzS1 hzS2 rfl (by decide) _ k3 (rep [.string a] k3) rfl own2 ⟨wr.heap.size, 0, none⟩ 1 1 ([.string a]) rfl rfl hnews (oneCS a) (by decide) (by unfold maxLen; omega) (by omega) hB3 _ rfl ?_; intro g' cap' w4 own4 g4 hat hlt; have BX4 := blk_grown BX2 g4 hne; have y := blk_cell BX4 1; have y' := blk_free BX4 1; simp only [List.getElem?_toArray, List.getElem?_cons_zero, List.getElem?_cons_succ] at y)
            have BX5 : (w4.setCell ⟨wo.heap.size, 1, none⟩ (.slice (some ⟨g', 0, none⟩) (k3 + 1) cap')).heap[wo.heap.size]? = some (.cells #[.int .i64 zv, (.slice (some ⟨g', 0, none⟩) (k3 + 1) cap'), .slice none 0 0] 39 (0, 0)) := blk_set BX4 1 _
            have own5 := ownsRow_setCell_below own4 (a := ⟨wo.heap.size, 1, none⟩) (Nat.lt_succ_self _) (.slice (some ⟨g', 0, none⟩) (k3 + 1) cap')
            have bel5 := (k1'.grown g4 (Nat.le_trans (Nat.le_succ _) hB3) hlow).setCell (p := ⟨wo.heap.size, 1, none⟩) (Nat.le_refl _) (.slice (some ⟨g', 0, none⟩) (k3 + 1) cap')
            go_roundw
            case rel => exact ⟨k3 + 1, _, by omega, by go_num, BX5, own5, bel5⟩
            case measure => simp [intOf]; omega
          obtain rfl : nl = k3 := by omega
          have x2 := blk_cell BX 2
          simp only [List.getElem?_toArray, List.getElem?_cons_zero, List.getElem?_cons_succ] at x2
          have own2 := World.ownsRow_nil (wr.alloc (.cells #[.string b] 9)) (wo.heap.size + 1) 9 1
          have hvL : vL.ownBlock = none ∨ vL.ownBlock ≠ none := by cases vL.ownBlock <;> simp
          have ownL2 := own.alloc (.cells #[.string b] 9)
          have hnews := news_lit wr [.string b] 9
          have f1' := alloc1 wr (.cells #[.string b] 9)
          have BX2 := blk_on BX f1'
          have k1' := fb.trans (f1'.mono fb.size)
          have hB2 : wo.heap.size + 1 ≤ wr.heap.size := lt_of_block BX
          have hB3 := Nat.le_trans hB2 f1'.size
          go_upto_region 22 with (at_builtin; refine wpList_append_lies _ rfl (.tmp 98) (.tmp 100) 24 rfl (wo.heap.size + 1) 9 iS (.string ⟨#[]⟩) 1 16 Tryz.underlying24 hiS hzS0 hzS1 hzS2 rfl (by decide) _ 0 (([] : List Value)) rfl own2 ⟨wr.heap.size, 0, none⟩ 1 1 ([.string b]) rfl rfl hnews (oneCS b) (by decide) (by unfold maxLen; omega) (by omega) hB3 _ rfl ?_; intro g' cap' w4 own4 g4 hat hlt; have BX4 := blk_grown BX2 g4 (fun e => by cases e); have y := blk_cell BX4 2; have y' := blk_free BX4 2; simp only [List.getElem?_toArray, List.getElem?_cons_zero, List.getElem?_cons_succ] at y)
          have BX5 : (w4.setCell ⟨wo.heap.size, 2, none⟩ (.slice (some ⟨g', 0, none⟩) (0 + 1) cap')).heap[wo.heap.size]? = some (.cells #[.int .i64 zv, vL, (.slice (some ⟨g', 0, none⟩) (0 + 1) cap')] 39 (0, 0)) := blk_set BX4 2 _
          have ownS5 := ownsRow_setCell_below own4 (a := ⟨wo.heap.size, 2, none⟩) (Nat.lt_succ_self _) (.slice (some ⟨g', 0, none⟩) (0 + 1) cap')
          have ownL5 := ownsRow_setCell_below (ownL2.kept g4 hvL) (a := ⟨wo.heap.size, 2, none⟩) (Nat.lt_succ_self _) (.slice (some ⟨g', 0, none⟩) (0 + 1) cap')
          have bel5 := (k1'.grown g4 (Nat.le_trans (Nat.le_succ _) hB3) (fun g e => by cases e)).setCell (p := ⟨wo.heap.size, 2, none⟩) (Nat.le_refl _) (.slice (some ⟨g', 0, none⟩) (0 + 1) cap')
          simp only [Nat.zero_add] at BX5 ownS5 ownL5 bel5
          generalize w4.setCell ⟨wo.heap.size, 2, none⟩ (.slice (some ⟨g', 0, none⟩) 1 cap') = wz at *
          have kk : Below wz.heap.size wz wz.drew := (Below.refl _ _).drew
          have kd := bel5.trans (kk.mono bel5.size)
          clear x2 own2 ownL2 hnews f1' BX2 k1' hB2 hB3 BX4 y y' own4 g4 hat hlt own BX fb hvL
          have BXd := blk_on BX5 kk
          have oLd := own_later ownL5 kk
          have oSd := own_later ownS5 kk
          have BMd := blk_up BM kd (lt_of_block BM)
          have BCd := blk_up BC kd (lt_of_block BC)
          have BFd := blk_up BF kd (lt_of_block BF)
          have o7d := own_later own7 kd
          have o8d := own_later own8 kd
          have kwd := hbel.trans (kd.mono hbel.size)
          have hIN2 : ∀ t ∈ XL ++ [(zv, vL, Value.slice (some ⟨g', 0, none⟩) 1 cap')], InnX wz.drew w1.heap.size nl a b t := by
            intro t ht
            rcases List.mem_append.1 ht with ht | ht
            · exact InnX.later (HIN.out t ht) kd
            · obtain rfl : t = (zv, vL, Value.slice (some ⟨g', 0, none⟩) 1 cap') := by simpa using ht
              exact InnX.low ⟨oLd, oSd⟩ (Nat.le_trans hbel.size (Nat.le_succ _))
          have HIN2 : Hid _ := hIN2
          clear hIN2
          clear bel5 kk BX5 ownL5 ownS5 BM BC BF own7 own8
          have q0 := blk_cell BXd 0
          have q1 := blk_cell BXd 1
          have q2 := blk_cell BXd 2
          have q8 := blk_cell BMd 8
          simp only [List.getElem?_toArray, List.getElem?_cons_zero, List.getElem?_cons_succ] at q0 q1 q2 q8
          have ka := alloc1 wz.drew (.cells #[.int .i64 zv, vL, .slice (some ⟨g', 0, none⟩) 1 cap'] 39)
          have BMa := blk_on BMd ka
          have q8a : (wz.alloc (.cells #[.int .i64 zv, vL, .slice (some ⟨g', 0, none⟩) 1 cap'] 39)).drew.cell? ⟨w1.heap.size + 1 + 1 + 1, 8, none⟩ = some v8 := blk_cell BMa 8
          have q8b : (wz.alloc (.cells #[.int .i64 zv, vL, .slice (some ⟨g', 0, none⟩) 1 cap'] 39)).cell? ⟨w1.heap.size + 1 + 1 + 1, 8, none⟩ = some v8 := blk_cell BMa 8
          have BCa := blk_on BCd ka
          have BFa := blk_on BFd ka
          have o7a := o7d.alloc (.cells #[.int .i64 zv, vL, .slice (some ⟨g', 0, none⟩) 1 cap'] 39)
          have o8a := o8d.alloc (.cells #[.int .i64 zv, vL, .slice (some ⟨g', 0, none⟩) 1 cap'] 39)
          have ap7 := own_apart o7a o8a (by decide)
          have hneM := own_ne_blk o8a BMa (by decide)
          have hneC := own_ne_blk o8a BCa (by decide)
          have hneF := own_ne_blk o8a BFa (by decide)
          have kwa := kwd.trans (ka.mono kwd.size)
          have hlow := fun g e => (o8d.lt g e).1
          have hnews := news_lit wz.drew (xcells (zv, vL, .slice (some ⟨g', 0, none⟩) 1 cap')) 39
          have hone := oneCX (zv, vL, .slice (some ⟨g', 0, none⟩) 1 cap') (own_one oLd) rfl
          have eX : cellsX XL ++ xcells (zv, vL, .slice (some ⟨g', 0, none⟩) 1 cap') = cellsX (XL ++ [(zv, vL, .slice (some ⟨g', 0, none⟩) 1 cap')]) := (cellsX_snoc _ XL).symm
          have HEX : Hid _ := eX
          clear eX
          go_region_law (refine step_append_lies _ rfl (.tmp 107) (.tmp 109) 32 rfl w1.heap.size 39 iX (.agg #[.int .i64 0, .slice none 0 0, .slice none 0 0]) 3 56 Tryz.underlying32 hiX hzX0 hzX1 hzX2 rfl (by decide) v8 k (cellsX XL) (by simp [Act.eval, Act.put]) o8a ⟨wz.heap.size, 0, none⟩ 1 1 (xcells (zv, vL, .slice (some ⟨g', 0, none⟩) 1 cap')) (by simp [Act.eval, Act.put]) rfl hnews hone (by decide) (by unfold maxLen; omega) (by omega) kwa.size _ rfl ?_; intro g9 cap9 w9 own9 gr9 hat9 hlt9; have BM9 := blk_grown BMa gr9 hneM; have r8 := blk_cell BM9 8; have r8' := blk_free BM9 8; simp only [List.getElem?_toArray, List.getElem?_cons_zero, List.getElem?_cons_succ] at r8)
          all_goals
            have BM10 : (w9.setCell ⟨w1.heap.size + 1 + 1 + 1, 8, none⟩ (.slice (some ⟨g9, 0, none⟩) (k + 1) cap9)).heap[w1.heap.size + 1 + 1 + 1]? = some (.cells #[.string ⟨#[109, 97, 105, 110]⟩, .slice none 0 0, .string ⟨#[86]⟩, .bool true, .bool false, .int .i64 nl, .int .i64 nk, v7, (.slice (some ⟨g9, 0, none⟩) (k + 1) cap9), .slice none 0 0] 35 (0, 0)) := blk_set BM9 8 _
            have BC10 := blk_other (blk_grown BCa gr9 hneC) (a := ⟨w1.heap.size + 1 + 1 + 1, 8, none⟩) (.slice (some ⟨g9, 0, none⟩) (k + 1) cap9) (by show w1.heap.size + 1 + 1 + 1 + 1 ≠ w1.heap.size + 1 + 1 + 1; omega)
            have BF10 := blk_other (blk_grown BFa gr9 hneF) (a := ⟨w1.heap.size + 1 + 1 + 1, 8, none⟩) (.slice (some ⟨g9, 0, none⟩) (k + 1) cap9) (by show w1.heap.size + 1 ≠ w1.heap.size + 1 + 1 + 1; omega)
            have o7k := o7a.kept gr9 ap7
            have o7e := ownsRow_setCell_other o7k (a := ⟨w1.heap.size + 1 + 1 + 1, 8, none⟩) (fun e => own_ne_blk o7k BM9 (by decide) e.symm) (.slice (some ⟨g9, 0, none⟩) (k + 1) cap9)
            have o8e := ownsRow_setCell_other own9 (a := ⟨w1.heap.size + 1 + 1 + 1, 8, none⟩) (fun e => own_ne_blk own9 BM9 (by decide) e.symm) (.slice (some ⟨g9, 0, none⟩) (k + 1) cap9)
            rw [HEX.out] at o8e
            have hIN9 : ∀ t ∈ XL ++ [(zv, vL, Value.slice (some ⟨g', 0, none⟩) 1 cap')], InnX (w9.setCell ⟨w1.heap.size + 1 + 1 + 1, 8, none⟩ (.slice (some ⟨g9, 0, none⟩) (k + 1) cap9)) w1.heap.size nl a b t := fun t ht => ((InnX.later (HIN2.out t ht) ka).grown o8a gr9).set BM9 8 _
            have bel9 := (kwa.grown gr9 kwa.size hlow).setCell (p := ⟨w1.heap.size + 1 + 1 + 1, 8, none⟩) (by show w1.heap.size ≤ w1.heap.size + 1 + 1 + 1; omega) (.slice (some ⟨g9, 0, none⟩) (k + 1) cap9)
            have hXL9 : (XL ++ [(zv, vL, Value.slice (some ⟨g', 0, none⟩) 1 cap')]).length = k + 1 := by rw [List.length_append, HXL.out]; rfl
            clear HIN2 HIN
            go_wp2_with fail
            go_roundw
            case rel => exact ⟨k + 1, _, XL ++ [(zv, vL, Value.slice (some ⟨g', 0, none⟩) 1 cap')], by omega, by go_num, hXL9, by omega, BC10, BF10, BM10, o7e, o8e, hIN9, bel9⟩
            case measure => simp [intOf]; omega
      rw [HK9.out] at own7
      rw [← HXL.out] at own8
      have VC := maps_cls (by unfold maxLen; omega) (by unfold maxLen; omega) BF BM own7 own8 HIN.out
      have MC : ClsCells wo (w1.heap.size + 1 + 1 + 1 + 1) (.string ⟨#[65, 98]⟩) (.string ⟨#[79, 98, 106, 101, 99, 116]⟩) (.bool false) (.slice none 0 0) (.slice (some ⟨w1.heap.size + 1, 0, none⟩) 1 1) (.slice (some ⟨w1.heap.size + 1 + 1 + 1, 0, none⟩) 1 1) := ⟨blk_cell BC 0, blk_cell BC 1, blk_cell BC 2, blk_cell BC 3, blk_cell BC 4, blk_cell BC 5⟩
      have HMC : Hid _ := MC
      have HVC : Hid _ := VC
      clear MC VC BC BF BM own7 own8 HIN HXL HK9
      have kk : Below wo.heap.size wo wo.drew := (Below.refl _ _).drew
      obtain ⟨y0, y1, y2, y3, y4, y5⟩ := ClsCells.later HMC.out kk
      by_cases hg1 : k < len
      case pos =>
        have g1 : decide ((k : Int) < (len : Int)) = true := by simp; omega
        have g2 : decide ((k : Int) < 4) = false := by simp; omega
        have g3 : decide (k < len) = true := by simp; omega
        clear hgo
        go_upto_region 23 with fail
        go_region_with (first | (go_at_call 6; refine (cmay_any _ _ _ _ _ (ClsV.later HVC.out kk)).mono ?_; rintro e w' ⟨rfl, b'⟩; have kk := kk.trans (b'.mono kk.size); obtain ⟨y0, y1, y2, y3, y4, y5⟩ := ClsCells.later HMC.out kk) | (go_at_call 7; refine (rcls_any _ _ _ _ _ (ClsV.later HVC.out kk)).mono ?_; rintro e w' ⟨rfl, b'⟩; have kk := kk.trans (b'.mono kk.size); obtain ⟨y0, y1, y2, y3, y4, y5⟩ := ClsCells.later HMC.out kk))
        all_goals
          go_wp2_with fail
          go_ret
          exact ⟨ret_b (by simp), kw.trans (kk.mono kw.size)⟩
      have g1 : decide ((k : Int) < (len : Int)) = false := by simp; omega
      have g3 : decide (k < len) = false := by simp; omega
      clear hgo
      go_upto_region 23 with fail
      go_region_with (first | (go_at_call 6; refine (cmay_any _ _ _ _ _ (ClsV.later HVC.out kk)).mono ?_; rintro e w' ⟨rfl, b'⟩; have kk := kk.trans (b'.mono kk.size); obtain ⟨y0, y1, y2, y3, y4, y5⟩ := ClsCells.later HMC.out kk) | (go_at_call 7; refine (rcls_any _ _ _ _ _ (ClsV.later HVC.out kk)).mono ?_; rintro e w' ⟨rfl, b'⟩; have kk := kk.trans (b'.mono kk.size); obtain ⟨y0, y1, y2, y3, y4, y5⟩ := ClsCells.later HMC.out kk))
      all_goals
        go_wp2_with fail
        go_ret
        exact ⟨ret_b (by simp), kw.trans (kk.mono kw.size)⟩
theorem walk (lo sk : Int) (pa : Option Addr) (len cap : Nat) (z : List Int) (a b : ByteArray) (w : World) (w0 : (Lit.int .i64 lo).wf = true) (w1 : (Lit.int .i64 sk).wf = true) (w2 : IsRow .i64 w pa len cap z) (w3 : a.size ≤ maxLen) (w4 : b.size ≤ maxLen) :
    Calls Tryz.prog 3 #[.int .i64 lo, .int .i64 sk, .slice pa len cap, .string a, .string b] w fun e w' => e = .returned (.bool true) ∧ Below w.heap.size w w' := by
  by_cases h : (0 ≤ lo ∧ lo ≤ 18 ∧ 0 ≤ sk ∧ sk ≤ 18 ∧ a.size ≤ 12 ∧ b.size ≤ 12)
  · obtain ⟨h0, h1, h2, h3, h4, h5⟩ := h
    obtain ⟨nl, rfl⟩ := Int.eq_ofNat_of_zero_le h0
    obtain ⟨nk, rfl⟩ := Int.eq_ofNat_of_zero_le h2
    exact near nl nk pa len cap z a b w (by omega) (by omega) w2 h4 h5
  · exact far lo sk _ a b w w3 w4 h
/-! ### The row -/
theorem own : ownKnob Tryz.prog.godebug = none := by kernel_rfl
theorem laidOut : laidOutB Tryz.prog = true := by kernel_rfl
set_option maxRecDepth 100000 in
theorem lifted (os : Os) (started : os.Started) (H : Type) (enc : TypeId × Value → H) :
    ReturnsInHanded {} Tryz.checked os 3 .any (Rows.classMapsSpec.pre6 enc Tryz.prog Tryz.f3 Rows.classMapsRow.domain false) (Rows.classMapsSpec.post enc Tryz.prog Tryz.f3 false true false false) := by
  refine returnsInHanded_of_change (C := Tryz.checked) own started (by kernel_rfl) Tryz.func3
    (ChangeSpec.witness6 (enc := enc) (C := Tryz.checked) false ⟨#[], #[.int .i64 0, .int .i64 0, .slice none 0 0, .string ByteArray.empty, .string ByteArray.empty], []⟩ 8 (by kernel_rfl) (by kernel_rfl) (by kernel_rfl) (by kernel_rfl)) ?_
  intro W base args ds gs before hval0 hW hcnd _
  have hval : ∀ (j : Nat) t v, Tryz.f3.params[j]? = some t → args[j]? = some v → Value.okWide Tryz.prog W .any base t v := hval0
  have hW' := hW
  obtain ⟨p, q, hA0, hV, rfl, hfz, hnd⟩ := hW
  have hA : DataW.TrodAll enc Tryz.prog W 0 (fun _ => true) true Tryz.f3.params.toList args.toList ds p := hA0
  rw [Tryz.params3] at hA hval
  obtain ⟨v0, vs0, d0, ds0, p0, q0, hargs, rfl, rfl, h0, r0⟩ := trodAll_cons hA
  obtain ⟨v1, vs1, d1, ds1, p1, q1, rfl, rfl, rfl, h1, r1⟩ := trodAll_cons r0
  obtain ⟨v2, vs2, d2, ds2, p2, q2, rfl, rfl, rfl, h2, r2⟩ := trodAll_cons r1
  obtain ⟨v3, vs3, d3, ds3, p3, q3, rfl, rfl, rfl, h3, r3⟩ := trodAll_cons r2
  obtain ⟨v4, vs4, d4, ds4, p4, q4, rfl, rfl, rfl, h4, r4⟩ := trodAll_cons r3
  obtain ⟨rfl, rfl, rfl⟩ := trodAll_nil r4
  obtain rfl : args = #[v0, v1, v2, v3, v4] := by cases args; simp_all
  obtain ⟨rfl, rfl⟩ := trodVars_none hV
  obtain ⟨a0, rfl, rfl, rfl, w0⟩ := open_int Tryz.underlying3 (hval 0 3 v0 rfl rfl) h0
  obtain ⟨a1, rfl, rfl, rfl, w1⟩ := open_int Tryz.underlying3 (hval 1 3 v1 rfl rfl) h1
  obtain ⟨a2, len2, cap2, rfl⟩ := okWide_slice Tryz.underlying22 (hval 2 22 v2 rfl rfl)
  have k2 := h2
  have lt2 : ∀ x ∈ p2, x.block < W.heap.size := by obtain ⟨m, hm⟩ := k2; exact DataW.trod_lt m _ _ _ hm
  obtain ⟨z2, w2⟩ : ∃ zs, IsRow .i64 W a2 len2 cap2 zs := by
    obtain ⟨fuel, hf⟩ := h2
    rcases open_ints Tryz.underlying22 Tryz.underlying3 (by kernel_rfl) hf with ⟨hcs, _⟩ | ⟨x, l, c, zs, hcs, _, hl, hm, hz, _, hcell, hwz⟩
    · simp [Value.cells] at hcs
      obtain ⟨rfl, rfl, rfl⟩ := hcs
      exact ⟨[], .inl ⟨rfl, rfl, rfl, rfl⟩⟩
    · simp [Value.cells] at hcs
      obtain ⟨rfl, rfl, rfl⟩ := hcs
      exact ⟨zs, .inr ⟨_, rfl, hl, hm, by simpa using hz, hcell, hwz⟩⟩
  obtain ⟨a3, rfl, rfl, rfl, w3⟩ := open_string Tryz.underlying9 (hval 3 9 v3 rfl rfl) h3
  obtain ⟨a4, rfl, rfl, rfl, w4⟩ := open_string Tryz.underlying9 (hval 4 9 v4 rfl rfl) h4
  clear hA0 hval0
  refine (walk a0 a1 a2 len2 cap2 z2 a3 a4 W w0 w1 w2 w3 w4).mono fun e W' ⟨he, bel⟩ => ?_
  subst he
  exact ⟨_, rfl, _, _, _, [], _, [], hW', trodAll_mk1 (shut_bool Tryz.underlying4 _), (trodAll_cons_mk (shut_int Tryz.underlying3 w0) (trodAll_cons_mk (shut_int Tryz.underlying3 w1) (trodAll_cons_mk (Below.trod laidOut (by kernel_rfl) (of_decide_eq_true (by kernel_rfl)) k2 bel lt2) (trodAll_cons_mk (shut_string Tryz.underlying9 w3) (trodAll_cons_mk (shut_string Tryz.underlying9 w4) trodAll_mk0))))), rfl, bel.frame _, fun h => by cases h⟩

theorem over : Rows.classMapsRow.holds Tryz.pinned (OpenSpec.ofChange Rows.classMapsSpec) :=
  OpenClaim.holds_of_wide 3 Tryz.f3 rfl rfl rfl rfl rfl rfl rfl ⟨rfl, rfl, rfl, rfl, rfl⟩ rfl rfl rfl rfl rfl (by kernel_rfl) Tryz.func3 (by kernel_rfl)
    (of_decide_eq_true (by kernel_rfl)) (by unfold Func.isWrapper; first | (rw [if_pos (by decide +kernel)]; kernel_rfl) | (rw [if_neg (by decide +kernel)]; exact ⟨rfl, rfl⟩))
    (fun os started H enc _ => lifted os started H enc)

end ClassMaps

theorem classMaps_holds : Rows.ClassMapsSaid := ClassMaps.over
#print axioms classMaps_holds
end Go.Proofs.YtbfcjflgomedgaaGreat
