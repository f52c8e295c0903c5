/- The contracts of op.written, of slices.Concat at two slices of bytes, of op.Put: what speaks of the program. -/
import Derived.Test.YtjblmgdjaaeedaaGreatOpCode
import Derived.Test.YtjblmgdjaaeedaaGreatLibOwn
import Derived.Test.YtjblmgdjaaeedaaGreatLibMore
import Derived.Lib.AppendZerosOnto
import Derived.Lib.Walk
import Derived.Lib.SliceRun
import Derived.Deep.DeepAppendRoom
namespace Go.Proofs.YtjblmgdjaaeedaaGreat
namespace Op4
open Num Kind
open Go.RowKit
set_option linter.unusedVariables false
set_option maxRecDepth 100000

set_option maxRecDepth 100000 in
set_option maxHeartbeats 2000000 in
theorem owritten_any (o a : Int) (c m : ByteArray) (w : World) (ho : Is64 o) (ha : Is64 a) (hc : c.size ≤ 100) (hm : m.size ≤ 100) :
    Calls Tryz.prog 148 #[insV o a c m] w fun e w' => ∃ g cap l, l = (putI o a c m).length ∧ e = .returned (.slice (some ⟨g, 0, none⟩) l cap) ∧
      w'.ownsRow w.heap.size 5 1 (.slice (some ⟨g, 0, none⟩) l cap) l (cellsOf (putI o a c m)) ∧ Below w.heap.size w w' := by
  unfold insV
  have lo := enc_len o
  have la := enc_len a
  have lc := encT_small c hc
  have lm := encT_small m hm
  have b0 : Below w.heap.size w (w.alloc (.cells #[.int .i64 o, .int .i64 a, .string c, .string m] 48)) := (Below.refl _ _).alloc (Nat.le_refl _) _
  have c0 : (w.alloc (.cells #[.int .i64 o, .int .i64 a, .string c, .string m] 48)).cell? ⟨w.heap.size, 0, none⟩ = some (.int .i64 o) := cell_new _ _ _ 0
  have c1 : (w.alloc (.cells #[.int .i64 o, .int .i64 a, .string c, .string m] 48)).cell? ⟨w.heap.size, 1, none⟩ = some (.int .i64 a) := cell_new _ _ _ 1
  have c2 : (w.alloc (.cells #[.int .i64 o, .int .i64 a, .string c, .string m] 48)).cell? ⟨w.heap.size, 2, none⟩ = some (.string c) := cell_new _ _ _ 2
  have c3 : (w.alloc (.cells #[.int .i64 o, .int .i64 a, .string c, .string m] 48)).cell? ⟨w.heap.size, 3, none⟩ = some (.string m) := cell_new _ _ _ 3
  have HA := fun W => ohasA_any o W
  have HC := fun W => ohasC_any o W
  have HM := fun W => ohasM_any o W
  unfold cB at HC
  rcases kinds o with ⟨hk, hp⟩ | ⟨hk, hp⟩ | ⟨hk, hp⟩ | ⟨hk, hp⟩ | ⟨hk, hp⟩
  all_goals
    rw [hp] at HA HC HM
    simp only [Int.lt_irrefl, decide_false, show decide ((0 : Int) < 1) = true from rfl, show decide ((0 : Int) < 2) = true from rfl] at HA HC HM
  · have hv : putI o a c m = enc o ++ enc a := by unfold putI; rw [hp]; simp
    rw [hv]
    clear hp hk hv
    go_enter Tryz.func148, Tryz.ntmps148
    go_wp2_with fail
    refine (put_any none 0 0 [] o _ (Has.none _) ho (by omega)).mono ?_
    rintro e w1 ⟨g, cap, rfl, own1, b1⟩
    have d0 := cellOn c0 b1
    have d1 := cellOn c1 b1
    have e1 := b0.trans (b1.mono b0.size)
    have h1 := Has.own own1
    simp only [Nat.zero_add, List.nil_append] at h1
    clear b0 b1 c0 c1 c2 c3 own1
    go_wp2_with (go_at_call 152; refine (HA _).mono ?_; rintro e w' ⟨rfl, rfl⟩)
    refine (put_any _ _ _ (enc o) a _ h1 ha (by omega)).mono ?_
    rintro e w2 ⟨g2, cap2, rfl, own2, b2⟩
    have d0 := cellOn d0 b2
    have e2 := e1.trans (b2.mono e1.size)
    clear d1
    go_wp2_with (first | (go_at_call 154; refine (HC _).mono ?_; rintro e w' ⟨rfl, rfl⟩) | (go_at_call 157; refine (HM _).mono ?_; rintro e w' ⟨rfl, rfl⟩))
    go_ret
    exact ⟨g2, _, _, by simp, rfl, own_low own2 e1.size, e2⟩
  · have hv : putI o a c m = enc o ++ encT c := by unfold putI; rw [hp]; simp
    rw [hv]
    clear hp hk hv
    go_enter Tryz.func148, Tryz.ntmps148
    go_wp2_with fail
    refine (put_any none 0 0 [] o _ (Has.none _) ho (by omega)).mono ?_
    rintro e w1 ⟨g, cap, rfl, own1, b1⟩
    have d0 := cellOn c0 b1
    have d2 := cellOn c2 b1
    have e1 := b0.trans (b1.mono b0.size)
    have h1 := Has.own own1
    simp only [Nat.zero_add, List.nil_append] at h1
    clear b0 b1 c0 c1 c2 c3 own1
    go_wp2_with (first | (go_at_call 152; refine (HA _).mono ?_; rintro e w' ⟨rfl, rfl⟩) | (go_at_call 154; refine (HC _).mono ?_; rintro e w' ⟨rfl, rfl⟩))
    refine (put_text _ _ _ (enc o) c _ h1 (by omega)).mono ?_
    rintro e w2 ⟨g2, cap2, rfl, own2, b2⟩
    have d0 := cellOn d0 b2
    have e2 := e1.trans (b2.mono e1.size)
    clear d2
    go_wp2_with (go_at_call 157; refine (HM _).mono ?_; rintro e w' ⟨rfl, rfl⟩)
    go_ret
    exact ⟨g2, _, _, by simp, rfl, own_low own2 e1.size, e2⟩
  · have hv : putI o a c m = (enc o ++ encT c) ++ encT m := by unfold putI; rw [hp]; simp
    rw [hv]
    clear hp hk hv
    go_enter Tryz.func148, Tryz.ntmps148
    go_wp2_with fail
    refine (put_any none 0 0 [] o _ (Has.none _) ho (by omega)).mono ?_
    rintro e w1 ⟨g, cap, rfl, own1, b1⟩
    have d0 := cellOn c0 b1
    have d2 := cellOn c2 b1
    have d3 := cellOn c3 b1
    have e1 := b0.trans (b1.mono b0.size)
    have h1 := Has.own own1
    simp only [Nat.zero_add, List.nil_append] at h1
    clear b0 b1 c0 c1 c2 c3 own1
    go_wp2_with (first | (go_at_call 152; refine (HA _).mono ?_; rintro e w' ⟨rfl, rfl⟩) | (go_at_call 154; refine (HC _).mono ?_; rintro e w' ⟨rfl, rfl⟩))
    refine (put_text _ _ _ (enc o) c _ h1 (by omega)).mono ?_
    rintro e w2 ⟨g2, cap2, rfl, own2, b2⟩
    have d0 := cellOn d0 b2
    have d3 := cellOn d3 b2
    have e2 := e1.trans (b2.mono e1.size)
    have h2 := Has.own own2
    clear d2 h1 own2
    go_wp2_with (go_at_call 157; refine (HM _).mono ?_; rintro e w' ⟨rfl, rfl⟩)
    refine (put_text _ _ _ (enc o ++ encT c) m _ h2 (by omega)).mono ?_
    rintro e w3 ⟨g3, cap3, rfl, own3, b3⟩
    have e3 := e2.trans (b3.mono e2.size)
    go_wp2_with fail
    go_ret
    exact ⟨g3, _, _, by simp only [List.length_append], rfl, own_low own3 e2.size, e3⟩
  · have hv : putI o a c m = enc o ++ encT c := by unfold putI; rw [hp]; simp
    rw [hv]
    clear hp hk hv
    go_enter Tryz.func148, Tryz.ntmps148
    go_wp2_with fail
    refine (put_any none 0 0 [] o _ (Has.none _) ho (by omega)).mono ?_
    rintro e w1 ⟨g, cap, rfl, own1, b1⟩
    have d0 := cellOn c0 b1
    have d2 := cellOn c2 b1
    have e1 := b0.trans (b1.mono b0.size)
    have h1 := Has.own own1
    simp only [Nat.zero_add, List.nil_append] at h1
    clear b0 b1 c0 c1 c2 c3 own1
    go_wp2_with (first | (go_at_call 152; refine (HA _).mono ?_; rintro e w' ⟨rfl, rfl⟩) | (go_at_call 154; refine (HC _).mono ?_; rintro e w' ⟨rfl, rfl⟩))
    refine (put_text _ _ _ (enc o) c _ h1 (by omega)).mono ?_
    rintro e w2 ⟨g2, cap2, rfl, own2, b2⟩
    have d0 := cellOn d0 b2
    have e2 := e1.trans (b2.mono e1.size)
    clear d2
    go_wp2_with (go_at_call 157; refine (HM _).mono ?_; rintro e w' ⟨rfl, rfl⟩)
    go_ret
    exact ⟨g2, _, _, by simp, rfl, own_low own2 e1.size, e2⟩
  · have hv : putI o a c m = enc o := by unfold putI; rw [hp]; simp
    rw [hv]
    clear hp hk hv
    go_enter Tryz.func148, Tryz.ntmps148
    go_wp2_with fail
    refine (put_any none 0 0 [] o _ (Has.none _) ho (by omega)).mono ?_
    rintro e w1 ⟨g, cap, rfl, own1, b1⟩
    have d0 := cellOn c0 b1
    have e1 := b0.trans (b1.mono b0.size)
    clear b1 c0 c1 c2 c3
    go_wp2_with (first | (go_at_call 152; refine (HA _).mono ?_; rintro e w' ⟨rfl, rfl⟩) | (go_at_call 154; refine (HC _).mono ?_; rintro e w' ⟨rfl, rfl⟩) | (go_at_call 157; refine (HM _).mono ?_; rintro e w' ⟨rfl, rfl⟩))
    go_ret
    simp only [Nat.zero_add, List.nil_append] at own1
    exact ⟨g, _, _, rfl, by simp, own_low own1 b0.size, e1⟩

set_option maxHeartbeats 1000000 in
theorem grow_nil (n : Nat) (w : World) (h0 : 0 < n) (hn : n ≤ 1000000000) :
    Calls Tryz.prog 166 #[.slice none 0 0, .int .i64 n] w fun e w' => ∃ cap, n ≤ cap ∧ e = .returned (.slice (some ⟨w.heap.size, 0, none⟩) 0 cap) ∧
      w'.ownsRow w.heap.size 5 1 (.slice (some ⟨w.heap.size, 0, none⟩) 0 cap) 0 [] ∧ Below w.heap.size w w' := by
  obtain ⟨i0, hi, hz0, hz1, hz2⟩ := info_parts info8
  have hrz : ∀ ty, (Builtin.append_ #[29, 3] ty #[.slice none 0 0, .int .i64 (n : Int)]).run Tryz.prog w =
      .ok (.slice (some ⟨w.heap.size, 0, none⟩) n (grownCap w n 0 5)) (w.drew.alloc (.cells (#[] ++ Builtin.zeroCells (Value.int .u8 0).cells n ++ Builtin.zeroCells (Value.int .u8 0).cells (grownCap w n 0 5 - n)) 5)) := fun ty => by
    have h := Lib.run_append_grow_zeros w 29 3 ty 5 i0 (.int .u8 0) .i64 .i64 Tryz.underlying29 Tryz.underlying3 hi hz0 none 0 0 [] (by exact run_firstCells_none w.drew i0.size 0 0 0) n h0 (by rw [hz1]; decide) (by omega) (by omega)
      (by rw [hz2]; omega) (growslice_fits (by omega) (by rw [hz2]; omega))
    simpa using h
  have hG1 : n ≤ grownCap w n 0 5 := grownCap_ge w _ _ _
  have hG2 : grownCap w n 0 5 ≤ maxLen := grownCap_le_maxLen w n 0 5 (by unfold maxLen; omega)
  generalize grownCap w n 0 5 = G at *
  have hsz : (#[] ++ Builtin.zeroCells (Value.int .u8 0).cells n ++ Builtin.zeroCells (Value.int .u8 0).cells (G - n)).size = G * 1 := by
    have : (Value.int .u8 0).cells.size = 1 := rfl
    simp [Builtin.zeroCells, this]
    omega
  have own : (w.drew.alloc (.cells (#[] ++ Builtin.zeroCells (Value.int .u8 0).cells n ++ Builtin.zeroCells (Value.int .u8 0).cells (G - n)) 5)).ownsRow w.heap.size 5 1 (.slice (some ⟨w.heap.size, 0, none⟩) 0 G) 0 [] :=
    World.ownsRow_made w.drew _ G (Nat.le_refl _) hG2 hsz
  have bel : Below w.heap.size w (w.drew.alloc (.cells (#[] ++ Builtin.zeroCells (Value.int .u8 0).cells n ++ Builtin.zeroCells (Value.int .u8 0).cells (G - n)) 5)) := (Below.refl _ _).drew.alloc (Nat.le_refl _) _
  generalize (#[] ++ Builtin.zeroCells (Value.int .u8 0).cells n ++ Builtin.zeroCells (Value.int .u8 0).cells (G - n)) = Z at *
  have h1 : ¬ ((n : Int) < 0) := by omega
  have h2 : wrap64 (n : Int) = n := by unfold wrap64; omega
  have h4 : (n : Int) > 0 := by omega
  unfold maxLen at hG2
  go_enter Tryz.func166, Tryz.ntmps166
  go_wp2_with (at_builtin; refine Lib.wpList_append_run _ rfl _ _ _ _ rfl _ _ rfl rfl _ _ (hrz _) ?_)
  go_ret
  exact ⟨G, hG1, rfl, own, bel⟩

/-- slices.Concat of two slices of bytes. -/
theorem own_has {w : World} {B g n cap : Nat} {xs : List Int} (h : w.ownsRow B 5 1 (.slice (some ⟨g, 0, none⟩) n cap) n (cellsOf xs)) : n ≤ cap := (Has.own h).cap
set_option maxHeartbeats 2000000 in
theorem concat_two (G : Nat) (p q : Option Addr) (n k m l : Nat) (xs ys : List Int) (w : World) (hp : Has w p n k xs) (hq : Has w q m l ys)
    (c0 : w.cell? ⟨G, 0, none⟩ = some (.slice p n k)) (c1 : w.cell? ⟨G, 1, none⟩ = some (.slice q m l)) (h0 : 0 < m) (hn : n + m ≤ 1000000000) :
    Calls Tryz.prog 147 #[.slice (some ⟨G, 0, none⟩) 2 2] w fun e w' => ∃ g cap, e = .returned (.slice (some ⟨g, 0, none⟩) (n + m) cap) ∧
      w'.ownsRow w.heap.size 5 1 (.slice (some ⟨g, 0, none⟩) (n + m) cap) (n + m) (cellsOf (xs ++ ys)) ∧ Below w.heap.size w w' := by
  obtain ⟨i0, hi, hz0, hz1, hz2⟩ := info_parts info8
  go_enter Tryz.func147, Tryz.ntmps147
  go_wp2_with fail
  go_loop [3, 11, 5] (fun s i _ => (s = .int .i64 0 ∧ i = .int .i64 0) ∨ (s = .int .i64 n ∧ i = .int .i64 1) ∨ (s = .int .i64 ((n + m : Nat) : Int) ∧ i = .int .i64 2)) (fun _ i _ => 2 - (intOf i).toNat)
  case atStart => exact .inl ⟨rfl, rfl⟩
  case round =>
    rcases hrel with ⟨rfl, rfl⟩ | ⟨rfl, rfl⟩ | ⟨rfl, rfl⟩
    · have h1 : wrap64 (n : Int) = n := by unfold wrap64; omega
      have h2 : ¬ ((n : Int) < 0) := by omega
      go_wp2_with fail
      go_round
      case rel => exact .inr (.inl ⟨by simp, by simp⟩)
      case measure => simp [intOf]
    · have h1 : wrap64 ((n : Int) + m) = n + m := by unfold wrap64; omega
      have h2 : ¬ ((n : Int) + m < 0) := by omega
      go_wp2_with fail
      go_round
      case rel => exact .inr (.inr ⟨by simp, by simp⟩)
      case measure => simp [intOf]
    · go_wp2_with fail
      refine (grow_nil (n + m) _ (by omega) hn).mono ?_
      rintro e w1 ⟨cap, hcap, rfl, own1, b1⟩
      go_wp2_with fail
      go_loopw [6, 27, 8] (fun v i _ wr => Below w.heap.size w wr ∧ ((i = .int .i64 0 ∧ v = .slice (some ⟨w.heap.size, 0, none⟩) 0 cap ∧ wr.ownsRow w.heap.size 5 1 (.slice (some ⟨w.heap.size, 0, none⟩) 0 cap) 0 []) ∨
        (i = .int .i64 1 ∧ v = .slice (some ⟨w.heap.size, 0, none⟩) n cap ∧ wr.ownsRow w.heap.size 5 1 (.slice (some ⟨w.heap.size, 0, none⟩) n cap) n (cellsOf xs)) ∨
        (i = .int .i64 2 ∧ v = .slice (some ⟨w.heap.size, 0, none⟩) (n + m) cap ∧ wr.ownsRow w.heap.size 5 1 (.slice (some ⟨w.heap.size, 0, none⟩) (n + m) cap) (n + m) (cellsOf (xs ++ ys))))) (fun _ i _ _ => 2 - (intOf i).toNat)
      case atStart => exact ⟨b1, .inl ⟨rfl, rfl, own1⟩⟩
      case round =>
        obtain ⟨br, h⟩ := hrel
        have d0 := cellOn c0 br
        have d1 := cellOn c1 br
        have hpr := hp.later br
        have hqr := hq.later br
        clear c0 c1 hp hq own1 b1
        rcases h with ⟨rfl, rfl, own⟩ | ⟨rfl, rfl, own⟩ | ⟨rfl, rfl, own⟩
        · go_wp2_with (at_builtin; refine wpList_append_fits_any _ rfl _ _ 29 rfl w.heap.size 5 i0 1 Tryz.underlying29 hi hz1 w.heap.size 0 cap [] rfl own p n k (cellsOf xs) rfl (by rw [cellsOf_length, hpr.len, Nat.mul_one]) hpr.nil hpr.news (cellsOf_one xs) (by omega) ?_; intro w2 own2 g2)
          have b2 := br.grown g2 br.size (fun k e => by cases e; exact Nat.le_refl _)
          simp only [Nat.zero_add, List.nil_append] at own2
          go_roundw
          case rel => exact ⟨b2, .inr (.inl ⟨by simp, by simp, own2⟩)⟩
          case measure => simp [intOf]
        · go_wp2_with (at_builtin; refine wpList_append_fits_any _ rfl _ _ 29 rfl w.heap.size 5 i0 1 Tryz.underlying29 hi hz1 w.heap.size n cap _ rfl own q m l (cellsOf ys) rfl (by rw [cellsOf_length, hqr.len, Nat.mul_one]) hqr.nil hqr.news (cellsOf_one ys) (by omega) ?_; intro w2 own2 g2)
          have b2 := br.grown g2 br.size (fun k e => by cases e; exact Nat.le_refl _)
          rw [← cellsOf_append] at own2
          go_roundw
          case rel => exact ⟨b2, .inr (.inr ⟨by simp, rfl, own2⟩)⟩
          case measure => simp [intOf]
        · go_wp2_with fail
          go_ret
          exact ⟨w.heap.size, cap, rfl, own, br⟩

set_option maxRecDepth 100000 in
set_option maxHeartbeats 1000000 in
theorem oput_any (p : Option Addr) (n k : Nat) (xs : List Int) (o a : Int) (c m : ByteArray) (w : World) (h : Has w p n k xs) (ho : Is64 o) (ha : Is64 a) (hc : c.size ≤ 100) (hm : m.size ≤ 100) (hn : n ≤ 100000000) (hmay : mayIns o a (nums c) (nums m) = true) :
    Calls Tryz.prog 134 #[.slice p n k, insV o a c m] w fun e w' => ∃ g cap l, l = n + (putI o a c m).length ∧ e = .returned (.slice (some ⟨g, 0, none⟩) l cap) ∧
      w'.ownsRow w.heap.size 5 1 (.slice (some ⟨g, 0, none⟩) l cap) l (cellsOf (xs ++ putI o a c m)) ∧ Below w.heap.size w w' := by
  have HM := fun W => omay_any o a c m W (by unfold maxLen; omega) (by unfold maxLen; omega)
  rw [hmay] at HM
  have HW := fun W => owritten_any o a c m W ho ha hc hm
  have hl : 0 < (putI o a c m).length ∧ (putI o a c m).length ≤ 1000 := by
    have lo := enc_len o
    have la := enc_len a
    have lc := encT_small c hc
    have lm := encT_small m hm
    unfold putI
    simp only [List.length_append]
    repeat' split
    all_goals (try simp only [List.length_nil])
    all_goals omega
  clear hmay
  generalize putI o a c m = P at *
  obtain ⟨hl0, hl1⟩ := hl
  unfold insV at *
  have b0 : Below w.heap.size w (w.alloc (.cells #[.int .i64 o, .int .i64 a, .string c, .string m] 48)) := (Below.refl _ _).alloc (Nat.le_refl _) _
  have c0 : (w.alloc (.cells #[.int .i64 o, .int .i64 a, .string c, .string m] 48)).cell? ⟨w.heap.size, 0, none⟩ = some (.int .i64 o) := cell_new _ _ _ 0
  have c1 : (w.alloc (.cells #[.int .i64 o, .int .i64 a, .string c, .string m] 48)).cell? ⟨w.heap.size, 1, none⟩ = some (.int .i64 a) := cell_new _ _ _ 1
  have c2 : (w.alloc (.cells #[.int .i64 o, .int .i64 a, .string c, .string m] 48)).cell? ⟨w.heap.size, 2, none⟩ = some (.string c) := cell_new _ _ _ 2
  have c3 : (w.alloc (.cells #[.int .i64 o, .int .i64 a, .string c, .string m] 48)).cell? ⟨w.heap.size, 3, none⟩ = some (.string m) := cell_new _ _ _ 3
  go_enter Tryz.func134, Tryz.ntmps134
  go_wp2_with fail
  refine (HM _).mono ?_
  rintro e w1 ⟨rfl, b1⟩
  have d0 := cellOn c0 b1
  have d1 := cellOn c1 b1
  have d2 := cellOn c2 b1
  have d3 := cellOn c3 b1
  have e1 := b0.trans (b1.mono b0.size)
  clear b0 b1 c0 c1 c2 c3 HM
  go_wp2_with fail
  refine (HW _).mono ?_
  rintro e w2 ⟨g, cap, l, rfl, rfl, own2, b2⟩
  have e2 := e1.trans (b2.mono e1.size)
  have hq := Has.own own2
  have hp := h.later e2
  clear d0 d1 d2 d3 own2 HW
  go_wp2_with fail
  have e3 := e2.alloc e2.size (.cells #[.slice p n k, .slice (some ⟨g, 0, none⟩) P.length cap] 29)
  refine (concat_two _ p (some ⟨g, 0, none⟩) n k P.length cap xs P _ (h.later e3) (hq.later ((Below.refl _ _).alloc (Nat.le_refl _) _)) (cell_new _ _ _ 0) (cell_new _ _ _ 1) hl0 (by omega)).mono ?_
  rintro e w4 ⟨g4, cap4, rfl, own4, b4⟩
  have e4 := e3.trans (b4.mono e3.size)
  go_wp2_with fail
  go_ret
  exact ⟨g4, cap4, _, rfl, rfl, own_low own4 e3.size, e4⟩
end Op4
end Go.Proofs.YtjblmgdjaaeedaaGreat
