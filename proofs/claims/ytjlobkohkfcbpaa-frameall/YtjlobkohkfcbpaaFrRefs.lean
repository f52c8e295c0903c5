/- frame's references and Refs: what speaks of the program. -/
import Derived.Test.YtjlobkohkfcbpaaFrCopy
namespace Go.Proofs.Ytjlobkohkfcbpaa
namespace Fr
open Mem
open Go.RowKit
set_option linter.unusedVariables false
set_option linter.unusedSimpArgs false
set_option maxRecDepth 100000

def ptr (p : Nat) (o : Nat) : Value := .pointer (some ⟨p, o, none⟩)
theorem infoP : (Try.prog.info? 54).map (fun i => (i.zero, i.size, i.bytes)) = some (some (.pointer none), 1, 8) := by kernel_rfl
theorem infoN : (Try.prog.info? 3).map (fun i => (i.zero, i.size, i.bytes)) = some (some (.int .i64 0), 1, 8) := by kernel_rfl
theorem take_snoc {α : Type} (l : List α) (k : Nat) (hk : k < l.length) : l.take (k + 1) = l.take k ++ [l[k]] := by
  rw [List.take_add_one, List.getElem?_eq_getElem hk]
  rfl
theorem offs_snoc (l : List Vl) (o t : Nat) (ht : t < l.length) : offs o (l.take (t + 1)) = offs o (l.take t) ++ (if l[t].r then [o + t * 2] else []) := by
  rw [take_snoc l t ht, offs_append]
  congr 1
  rw [List.length_take, Nat.min_eq_left (by omega), Nat.mul_comm]
  simp only [offs]
/-- The places of a frame's references. -/
def allO (ls st : List Vl) : List Nat := offs 2 ls ++ offs 35 st
theorem allO_len (ls st : List Vl) : (allO ls st).length = (refsOf (ls ++ st)).length := by simp [allO, offs_len, refs_append]
/-- The places of the first segments' references. -/
def segO (ls st : List Vl) : Nat → List Nat
  | 0 => []
  | 1 => offs 2 ls
  | _ => allO ls st
theorem seg {B : Nat} {w : World} {p : Nat} {m pc : Int} {ls st : List Vl} {r : Nat} (H : Fr B w p m pc ls r st) : ∀ k, k < 2 → ∃ o l, (k = 0 → o = 2 ∧ l = ls) ∧ (k = 1 → o = 35 ∧ l = st) ∧ l.length ≤ 16 ∧ segO ls st (k + 1) = segO ls st k ++ offs o l ∧ (∀ x ∈ l, Is32 x.n) ∧ ∀ i (hi : i < l.length), w.cell? ⟨p, o + i * 2, none⟩ = some (.bool l[i].r) := by
  obtain ⟨l1, l2, l3⟩ := H.len
  obtain ⟨⟨lx, sx, h1, h2, h3⟩, r1, r2, r3, r4, r5⟩ := H
  intro k hk
  rcases (show k = 0 ∨ k = 1 by omega) with rfl | rfl
  · refine ⟨2, ls, fun _ => ⟨rfl, rfl⟩, (fun e => by cases e), l1, by simp [segO], r4, fun i hi => ?_⟩
    obtain ⟨c1, c2⟩ := cellsV_at (ls ++ lx) i (by rw [List.length_append]; omega)
    rw [List.getElem_append_left hi] at c1
    rw [blk_cell h1, List.getElem?_toArray, Nat.mul_comm i 2, frC_L m pc _ _ _ _ _ h2 h3 _ (by omega), c1]
  · refine ⟨35, st, (fun e => by cases e), fun _ => ⟨rfl, rfl⟩, by omega, by simp [segO, allO], r5, fun i hi => ?_⟩
    obtain ⟨c1, c2⟩ := cellsV_at (st ++ sx) i (by rw [List.length_append]; omega)
    rw [List.getElem_append_left hi] at c1
    rw [blk_cell h1, List.getElem?_toArray, Nat.mul_comm i 2, frC_S m pc _ _ _ _ _ h2 h3 _ (by omega), c1]
theorem references_nil (w : World) : Calls Try.prog 24 #[.pointer none] w fun e w' => e = .returned (.slice none 0 0) ∧ w = w' := by
  go_enter Try.func24, Try.ntmps24
  go_wp2_with fail
  go_ret
  exact ⟨rfl, rfl⟩
set_option maxHeartbeats 8000000 in
theorem references_any {B : Nat} {w : World} {p : Nat} {m pc : Int} {ls st : List Vl} {r : Nat} (H : Fr B w p m pc ls r st) : Calls Try.prog 24 #[.pointer (some ⟨p, 0, none⟩)] w fun e w' => ∃ v', e = .returned v' ∧ w'.ownsRow w.heap.size 54 1 v' (allO ls st).length ((allO ls st).map (ptr p)) ∧ Below w.heap.size w w' := by
  obtain ⟨i0, hi, hz0, hz1, hz2⟩ := info_parts infoP
  have HH : Hid (Fr _ _ _ _ _ _ _ _) := H
  obtain ⟨l1, l2, l3⟩ := H.len
  have hal : (allO ls st).length ≤ 32 := by
    rw [allO_len]
    have := refs_len (ls ++ st)
    rw [List.length_append] at this
    omega
  obtain ⟨⟨lx, sx, h1, h2, h3⟩, r1, r2, r3, r4, r5⟩ := H
  have x1 := (blk_cell h1 68).trans (toA (frC_68 m pc _ _ _ _ _ h2 h3))
  have x2 := (blk_cell h1 34).trans (toA (frC_34 m pc _ _ _ _ _ h2 h3))
  have s1 := slice_h p 2 ls.length l1 (by decide)
  have s2 := slice_h p 35 st.length (by omega) (by decide)
  clear h1 h2 h3 r1 r2 r3 r4 r5
  obtain ⟨C, hC⟩ : ∃ C, C = ls.length := ⟨_, rfl⟩
  obtain ⟨D, hD⟩ : ∃ D, D = st.length := ⟨_, rfl⟩
  rw [← hC] at x2 s1 l1
  rw [← hD] at x1 s2 l2
  have HC : Hid _ := hC
  have HD : Hid _ := hD
  clear hC hD
  go_enter Try.func24, Try.ntmps24
  go_upto_region 4 with fail
  go_region
  go_upto_region 5 with fail
  have kL : Below w.heap.size w (w.alloc (.cells #[.slice (some ⟨p, 2, none⟩) C 16, .slice (some ⟨p, 35, none⟩) D 16] 22)).drew := ((alloc1 w _).drew)
  have BL : (w.alloc (.cells #[.slice (some ⟨p, 2, none⟩) C 16, .slice (some ⟨p, 35, none⟩) D 16] 22)).drew.heap[w.heap.size]? = some (.cells #[.slice (some ⟨p, 2, none⟩) C 16, .slice (some ⟨p, 35, none⟩) D 16] 22 (0, 0)) := blk_new w _ _
  have H1 := HH.out.later kL
  generalize (w.alloc (.cells #[.slice (some ⟨p, 2, none⟩) C 16, .slice (some ⟨p, 35, none⟩) D 16] 22)).drew = W at *
  have HBL : Hid _ := BL
  have HF : Hid (Fr _ _ _ _ _ _ _ _) := H1
  clear H1 BL HH s1 s2 x1 x2
  go_loopw [3, 27] (fun fv i wr => ∃ (k : Nat), i = .int .i64 k ∧ k ≤ 2 ∧ Hid (wr.ownsRow W.heap.size 54 1 fv (segO ls st k).length ((segO ls st k).map (ptr p))) ∧ Below W.heap.size W wr) (fun _ i _ => 2 - (intOf i).toNat)
  case atStart => exact ⟨0, rfl, by omega, World.ownsRow_nil _ _ _ _, Below.refl _ _⟩
  case round =>
    obtain ⟨k, rfl, hk, HR, bw⟩ := hrel
    by_cases hk2 : k < 2
    · obtain ⟨o, l, q0, q1, hl16, hseg, h32, hx⟩ := seg HF.out k hk2
      have hlit : wr.cell? ⟨w.heap.size, k, none⟩ = some (.slice (some ⟨p, o, none⟩) l.length 16) := by
        have hb := blk_on HBL.out bw
        rcases (show k = 0 ∨ k = 1 by omega) with rfl | rfl
        · obtain ⟨rfl, rfl⟩ := q0 rfl
          rw [blk_cell hb 0, HC.out]
          rfl
        · obtain ⟨rfl, rfl⟩ := q1 rfl
          rw [blk_cell hb 1, HD.out]
          rfl
      have HSEG : Hid _ := hseg
      have HX : Hid (∀ i (hi : i < l.length), W.cell? ⟨p, o + i * 2, none⟩ = some (.bool l[i].r)) := hx
      have hsl : (segO ls st (k + 1)).length ≤ 32 := by
        rcases (show k = 0 ∨ k = 1 by omega) with rfl | rfl
        · have := congrArg List.length (show segO ls st 2 = offs 2 ls ++ offs 35 st from rfl)
          show (offs 2 ls).length ≤ 32
          simp only [segO, allO, List.length_append] at *
          omega
        · exact hal
      have hsp : (segO ls st k).length + (offs o l).length ≤ 32 := by
        have := congrArg List.length hseg
        rw [List.length_append] at this
        omega
      have d1 : decide ((k : Int) < 2) = true := by simp; omega
      have d2 : decide (k < 2) = true := by simp; omega
      clear q0 q1 hseg hx
      generalize hP : segO ls st k = P at *
      go_upto_region 8 with fail
      obtain ⟨wo, hwo⟩ : ∃ x, x = wr := ⟨_, rfl⟩
      subst hwo
      go_loopw [3, 33] (fun fv i wr => ∃ (t : Nat), i = .int .i64 t ∧ t ≤ l.length ∧ Hid (wr.ownsRow W.heap.size 54 1 fv (P ++ offs o (l.take t)).length ((P ++ offs o (l.take t)).map (ptr p))) ∧ Below W.heap.size W wr) (fun _ i _ => 16 - (intOf i).toNat)
      case atStart => exact ⟨0, rfl, by omega, by rw [List.take_zero, show offs o [] = [] from rfl, List.append_nil]; exact HR, bw⟩
      case round =>
        clear HR bw hlit
        obtain ⟨t, rfl, ht, HR, bw⟩ := hrel
        by_cases htl : t < l.length
        · have z0 := cellOn (HX.out t htl) bw
          have HSN := offs_snoc l o t htl
          have hlen2 : (P ++ offs o (l.take t)).length ≤ 32 := by
            have e : l = l.take t ++ l.drop t := (List.take_append_drop t l).symm
            have e2 := congrArg (fun q => (offs o q).length) e
            simp only [offs_append, List.length_append] at e2
            rw [List.length_append]
            omega
          have d3 : decide ((t : Int) < (l.length : Int)) = true := by simp; omega
          have d4 : decide (t < l.length) = true := by simp; omega
          cases hr : l[t].r
          · rw [hr] at z0 HSN
            have HR2 : Hid (wr.ownsRow W.heap.size 54 1 u3 (P ++ offs o (l.take (t + 1))).length ((P ++ offs o (l.take (t + 1))).map (ptr p))) := by
              show World.ownsRow _ _ _ _ _ _ _
              rw [HSN]
              simpa using HR.out
            clear hr HSN HR
            go_wp2_with fail
            go_roundw
            case rel => exact ⟨t + 1, by go_num, by omega, HR2, bw⟩
            case measure => simp [intOf]; omega
          · rw [hr] at z0 HSN
            obtain ⟨fa, fc, rfl⟩ := own_sl HR.out
            have ka := alloc1 wr (.cells #[.pointer (some ⟨p, o + t * 2, none⟩)] 54)
            have HRA : Hid _ := own_later HR.out ka
            have kk := bw.trans (ka.mono bw.size)
            have hB := kk.size
            have HNW : Hid (∀ j u, ([.pointer (some ⟨p, o + t * 2, none⟩)] : List Value)[j]? = some u → (wr.alloc (.cells #[.pointer (some ⟨p, o + t * 2, none⟩)] 54)).cell? ((⟨wr.heap.size, 0, none⟩ : Addr).add j) = some u) := fun j u hu => by
              rw [Addr.add_lit, Nat.zero_add, blk_cell (blk_new wr _ _) j]
              simpa using hu
            have HON1 : Hid (∀ u ∈ ([.pointer (some ⟨p, o + t * 2, none⟩)] : List Value), u.oneCell' = true) := by
              intro u hu
              simp at hu
              subst hu
              rfl
            have HSN' : Hid (P ++ offs o (l.take (t + 1)) = (P ++ offs o (l.take t)) ++ [o + t * 2]) := by
              show _ = _
              rw [HSN]
              simp
            clear hr HSN HR
            generalize P ++ offs o (l.take t) = Q at *
            go_wp2_with (at_builtin; refine wpList_append_lies _ rfl (.tmp 41) (.tmp 45) 52 rfl W.heap.size 54 i0 (.pointer none) 1 8 Try.underlying52 hi hz0 hz1 hz2 rfl (by decide) (.slice fa Q.length fc) Q.length (Q.map (ptr p)) rfl HRA.out ⟨wr.heap.size, 0, none⟩ 1 1 [.pointer (some ⟨p, o + t * 2, none⟩)] rfl rfl HNW.out HON1.out (by decide) (by unfold maxLen; omega) (by omega) hB _ rfl ?_; intro g' cap' w8 own8 g8 hat8 hlt8)
            have kk8 := kk.grown g8 hB (fun kx e => (World.ownsRow.lt HRA.out kx e).1)
            have HR2 : Hid (w8.ownsRow W.heap.size 54 1 (.slice (some ⟨g', 0, none⟩) (Q.length + 1) cap') (P ++ offs o (l.take (t + 1))).length ((P ++ offs o (l.take (t + 1))).map (ptr p))) := by
              show World.ownsRow _ _ _ _ _ _ _
              rw [HSN'.out, List.length_append, List.map_append]
              exact own8
            go_roundw
            case rel => exact ⟨t + 1, by go_num, by omega, HR2, kk8⟩
            case measure => simp [intOf]; omega
        · have d3 : decide ((t : Int) < (l.length : Int)) = false := by simp; omega
          have d4 : decide (t < l.length) = false := by simp; omega
          have HR2 : Hid (wr.ownsRow W.heap.size 54 1 u3 (segO ls st (k + 1)).length ((segO ls st (k + 1)).map (ptr p))) := by
            show World.ownsRow _ _ _ _ _ _ _
            rw [HSEG.out]
            have := HR.out
            rwa [List.take_of_length_le (by omega)] at this
          go_wp2_with fail
          go_roundw
          case rel => exact ⟨k + 1, by go_num, by omega, HR2, bw⟩
          case measure => simp [intOf]; omega
    · obtain rfl : k = 2 := by omega
      go_wp2_with fail
      go_ret
      exact ⟨_, rfl, own_low HR.out kL.size, kL.trans (bw.mono kL.size)⟩
/-- What a frame's reference i is, and where. -/
theorem fr_ref {B : Nat} {w : World} {p : Nat} {m pc : Int} {ls st : List Vl} {r : Nat} (H : Fr B w p m pc ls r st) (i o : Nat) (h : (allO ls st)[i]? = some o) : ∃ n, w.cell? ⟨p, o + 1, none⟩ = some (.int .i32 n) ∧ (refsOf (ls ++ st))[i]? = some (n - 1) ∧ Is32 n ∧ o + 1 < 69 := by
  obtain ⟨l1, l2, l3⟩ := H.len
  obtain ⟨⟨lx, sx, h1, h2, h3⟩, r1, r2, r3, r4, r5⟩ := H
  unfold allO at h
  rw [refs_append]
  by_cases hi : i < (offs 2 ls).length
  · rw [List.getElem?_append_left hi] at h
    obtain ⟨n, j, rfl, hj, c0, c1, c2, x, hx, hxn⟩ := offs_at _ _ _ _ h
    refine ⟨n, ?_, ?_, hxn ▸ r4 x hx, by omega⟩
    · rw [blk_cell h1, List.getElem?_toArray, Nat.add_assoc, frC_L m pc _ _ _ _ _ h2 h3 _ (by omega), cellsV_append, List.getElem?_append_left (by rw [cellsV_len]; omega), c1]
    · rw [List.getElem?_append_left (by rw [← offs_len ls 2]; exact hi), c2]
  · rw [List.getElem?_append_right (by omega)] at h
    obtain ⟨n, j, rfl, hj, c0, c1, c2, x, hx, hxn⟩ := offs_at _ _ _ _ h
    refine ⟨n, ?_, ?_, hxn ▸ r5 x hx, by omega⟩
    · rw [blk_cell h1, List.getElem?_toArray, Nat.add_assoc, frC_S m pc _ _ _ _ _ h2 h3 _ (by omega), cellsV_append, List.getElem?_append_left (by rw [cellsV_len]; omega), c1]
    · rw [List.getElem?_append_right (by rw [← offs_len ls 2]; omega), ← offs_len ls 2, c2]
theorem allO_32 {ls st : List Vl} {r : Nat} (l1 : ls.length ≤ 16) (l2 : st.length ≤ r) (l3 : r ≤ 16) : (allO ls st).length ≤ 32 := by
  rw [allO_len]
  have := refs_len (ls ++ st)
  rw [List.length_append] at this
  omega
theorem refs_nil_any (w : World) : Calls Try.prog 20 #[.pointer none] w fun e w' => e = .returned (.slice none 0 0) ∧ w = w' := by
  go_enter Try.func20, Try.ntmps20
  go_wp2_with (go_at_call 24; refine (references_nil _).mono ?_; rintro e w' ⟨rfl, rfl⟩)
  go_loopw [3, 9] (fun v i wr => v = .slice none 0 0 ∧ i = .int .i64 0 ∧ wr = w) (fun _ _ _ => 0)
  case atStart => exact ⟨rfl, rfl, rfl⟩
  case round =>
    obtain ⟨rfl, rfl, hw⟩ := hrel
    have hw := hw.symm
    subst hw
    go_wp2_with fail
    go_ret
    exact ⟨rfl, rfl⟩
set_option maxHeartbeats 8000000 in
theorem refs_any {B : Nat} {w : World} {p : Nat} {m pc : Int} {ls st : List Vl} {r : Nat} (H : Fr B w p m pc ls r st) : Calls Try.prog 20 #[.pointer (some ⟨p, 0, none⟩)] w fun e w' => ∃ v', e = .returned v' ∧ w'.ownsRow w.heap.size 3 1 v' (refsOf (ls ++ st)).length ((refsOf (ls ++ st)).map (Value.int .i64)) ∧ Below w.heap.size w w' := by
  obtain ⟨i0, hi, hz0, hz1, hz2⟩ := info_parts infoN
  obtain ⟨l1, l2, l3⟩ := H.len
  have hal := allO_32 l1 l2 l3
  have hrl := (allO_len ls st).symm
  have HC := references_any H
  have HH : Hid (Fr _ _ _ _ _ _ _ _) := H
  clear H
  have HRL : Hid _ := hrl
  clear hrl
  go_enter Try.func20, Try.ntmps20
  go_wp2_with fail
  refine HC.mono ?_
  rintro e W ⟨v, rfl, own, b0⟩
  obtain ⟨va, vc, rfl⟩ := own_sl own
  have HOWN : Hid _ := own
  have HF : Hid (Fr _ _ _ _ _ _ _ _) := HH.out.later b0
  clear own HC HH
  generalize hN : (allO ls st).length = N at *
  go_wp2_with fail
  go_loopw [3, 9] (fun fv i wr => ∃ (t : Nat), i = .int .i64 t ∧ t ≤ N ∧ Hid (wr.ownsRow W.heap.size 3 1 fv t (((refsOf (ls ++ st)).take t).map (Value.int .i64))) ∧ Below W.heap.size W wr) (fun _ i _ => 32 - (intOf i).toNat)
  case atStart => exact ⟨0, rfl, by omega, World.ownsRow_nil _ _ _ _, Below.refl _ _⟩
  case round =>
    obtain ⟨t, rfl, ht, HR, bw⟩ := hrel
    by_cases htl : t < N
    · obtain ⟨o, ho⟩ : ∃ o, (allO ls st)[t]? = some o := ⟨_, List.getElem?_eq_getElem (by omega)⟩
      obtain ⟨n, y1, y2, y3, y4⟩ := fr_ref HF.out t o ho
      have z1 := cellOn y1 bw
      obtain ⟨g, cap, e, _, _, hc1, hc2⟩ := own_some HOWN.out (by omega)
      simp only [Value.slice.injEq, true_and] at e
      obtain ⟨rfl, rfl⟩ := e
      have z2 := own_cell (own_later HOWN.out bw) t (ptr p o) (by rw [List.getElem?_map, ho]; rfl)
      unfold ptr at z2
      have HSN : Hid (((refsOf (ls ++ st)).take (t + 1)).map (Value.int .i64) = ((refsOf (ls ++ st)).take t).map (Value.int .i64) ++ [.int .i64 (n - 1)]) := by
        show _ = _
        rw [List.take_add_one, y2, List.map_append]
        rfl
      have HRL2 : (refsOf (ls ++ st)).length = N := HRL.out
      have htk : Hid ((((refsOf (ls ++ st)).take t).map (Value.int .i64)).length = t * 1) := by
        show _ = _
        rw [List.length_map, List.length_take]
        omega
      have d3 : decide ((t : Int) < (N : Int)) = true := by simp; omega
      have d4 : decide (t < N) = true := by simp; omega
      have e1 : IntKind.i64.wrap (n - 1) = n - 1 := by rw [IntKind.wrap_i64]; unfold Is32 at y3; omega
      have hn1 : -2147483648 ≤ n := y3.1
      have hn2 : n ≤ 2147483647 := y3.2
      obtain ⟨fa, fc, rfl⟩ := own_sl HR.out
      have ka := alloc1 wr (.cells #[.int .i64 (n - 1)] 3)
      have HRA : Hid _ := own_later HR.out ka
      have kk := bw.trans (ka.mono bw.size)
      have hB := kk.size
      have HNW : Hid (∀ j u, ([.int .i64 (n - 1)] : List Value)[j]? = some u → (wr.alloc (.cells #[.int .i64 (n - 1)] 3)).cell? ((⟨wr.heap.size, 0, none⟩ : Addr).add j) = some u) := fun j u hu => by
        rw [Addr.add_lit, Nat.zero_add, blk_cell (blk_new wr _ _) j]
        simpa using hu
      have HON1 : Hid (∀ u ∈ ([.int .i64 (n - 1)] : List Value), u.oneCell' = true) := by
        intro u hu
        simp at hu
        subst hu
        rfl
      clear y1 y2 y3 HR ho HRL2
      generalize ((refsOf (ls ++ st)).take t).map (Value.int .i64) = X at *
      go_wp2_with (at_builtin; refine wpList_append_lies _ rfl (.tmp 13) (.tmp 20) 43 rfl W.heap.size 3 i0 (.int .i64 0) 1 8 Try.underlying43 hi hz0 hz1 hz2 rfl (by decide) (.slice fa t fc) t X rfl HRA.out ⟨wr.heap.size, 0, none⟩ 1 1 [.int .i64 (n - 1)] rfl rfl HNW.out HON1.out (by decide) (by unfold maxLen; omega) (by omega) hB _ rfl ?_; intro g' cap' w8 own8 g8 hat8 hlt8)
      have kk8 := kk.grown g8 hB (fun kx e => (World.ownsRow.lt HRA.out kx e).1)
      rw [← HSN.out] at own8
      have HR2 : Hid _ := own8
      clear own8
      go_roundw
      case rel => exact ⟨t + 1, by go_num, by omega, HR2, kk8⟩
      case measure => simp [intOf]; omega
    · obtain rfl : t = N := by omega
      have d3 : decide ((t : Int) < (t : Int)) = false := by simp
      have d4 : decide (t < t) = false := by simp
      go_wp2_with fail
      go_ret
      have e := HR.out
      rw [List.take_of_length_le (by rw [HRL.out]; exact Nat.le_refl _)] at e
      refine ⟨_, rfl, ?_, b0.trans (bw.mono b0.size)⟩
      rw [HRL.out]
      exact own_low e b0.size
end Fr
end Go.Proofs.Ytjlobkohkfcbpaa
