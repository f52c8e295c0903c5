/- The laws' own 'same': a heap holds just these objects. -/
import Derived.Test.YtpjccmcbagoplaaHaMem
namespace Go.Proofs.Ytpjccmcbagoplaa
namespace Heap
open Mem Coll
open Go.RowKit
set_option linter.unusedVariables false
set_option linter.unusedSimpArgs false
set_option maxRecDepth 100000

theorem put_no (B : Nat) (w : World) (S : Nat → Prop) (p n : Nat) (os : List Ob) (a i x : Int) (H : Hp B w S p n os) (hx : Is32 x) (h : holdsO os a i = false) : Calls Try.prog 7 #[.pointer (some ⟨p, 0, none⟩), .int .i64 a, .int .i64 i, .int .i32 x] w fun e w' => e = .returned (.bool false) ∧ w = w' := by
  have := put_any B w S p n os a i x H hx
  rw [h] at this
  exact this.mono fun e w' h => ⟨h.1, h.2.2.2 rfl⟩
theorem get_no (B : Nat) (w : World) (S : Nat → Prop) (p n : Nat) (os : List Ob) (a i : Int) (H : Hp B w S p n os) (h : holdsO os a i = false) : Calls Try.prog 14 #[.pointer (some ⟨p, 0, none⟩), .int .i64 a, .int .i64 i] w fun e w' => e = .returned (.int .i32 0) ∧ w = w' := by
  have := get_any B w S p n os a i H
  rw [get_out os a i h] at this
  exact this
set_option maxHeartbeats 8000000 in
theorem same_any (Bh : Nat) (w : World) (S : Nat → Prop) (p C : Nat) (os : List Ob) (B : Nat) (a : Option Addr) (n c : Nat) (Q : List (Ob × Nat)) (H : Hp Bh w S p C os) (hR : RowsR B w (.slice a n c) Q) (hQ : Q.map Prod.fst = os) (hq : Q.length ≤ 1000) (L : Nat) (hL : L = (wordsO os).length) :
    Calls Try.prog 11 #[.pointer (some ⟨p, 0, none⟩), .slice a n c, .int .i64 (L : Int)] w fun e w' => e = .returned (.bool true) ∧ Below w.heap.size w w' := by
  have hu := H.used
  have hnq := hR.len
  subst hnq
  have hol : os.length = Q.length := by rw [← hQ, List.length_map]
  have HU := used_any _ _ _ _ _ _ _ H.raw
  rw [← hL] at HU hu
  have HH : Hid (Hp Bh w S p C os) := H
  have HRR : Hid (RowsR B w (.slice a Q.length c) Q) := hR
  have HQ : Hid (Q.map Prod.fst = os) := hQ
  have HLL : Hid (L = (wordsO os).length) := hL
  clear H hR hQ hL
  go_enter Try.func11, Try.ntmps11
  go_wp2_with fail
  refine HU.mono ?_
  rintro e w' ⟨rfl, rfl⟩
  clear HU
  go_wp2_with fail
  go_loopw [7] (fun i wr => ∃ (x : Int), i = .int .i64 x ∧ -1 ≤ x ∧ x ≤ (L : Int) + 1 ∧ Hid (Below w.heap.size w wr)) (fun i _ => ((L : Int) + 2 - intOf i).toNat)
  case atStart => exact ⟨-1, rfl, by omega, by omega, Below.refl _ _⟩
  case round =>
    obtain ⟨x, rfl, hx1, hx2, HB⟩ := hrel
    by_cases hxl : x ≤ (L : Int)
    · have d1 : decide (x ≤ (L : Int)) = true := by rw [decide_eq_true_eq]; exact hxl
      have HHr : Hid (Hp Bh wr S p C os) := HH.out.later HB.out
      have HRr : Hid (RowsR B wr (.slice a Q.length c) Q) := RowsR.later HRR.out HB.out
      have hHAS := has_any _ _ _ _ _ _ x HHr.out
      cases hh : hasO os x
      · rw [hh] at hHAS
        obtain ⟨n1, n2, n3⟩ := no_obj os x hh
        have hF := find_any B wr a Q.length c Q x (-1) HRr.out hq (.inr ⟨by rw [HQ.out]; exact hh, rfl⟩)
        have hK := kind_any _ _ _ _ _ _ x HHr.out
        rw [n1] at hK
        have hLn := len_any _ _ _ _ _ _ x HHr.out
        rw [n2] at hLn
        have hG := get_no _ _ _ _ _ _ x 0 HHr.out (n3 0)
        have hP := put_no _ _ _ _ _ _ x 0 1 HHr.out ⟨by omega, by omega⟩ (n3 0)
        clear hh n1 n2 n3
        go_wp2_with fail
        refine hF.mono ?_
        rintro e w' ⟨rfl, rfl⟩
        go_wp2_with fail
        refine hHAS.mono ?_
        rintro e w' ⟨rfl, rfl⟩
        go_wp2_with fail
        refine hK.mono ?_
        rintro e w' ⟨rfl, rfl⟩
        go_wp2_with fail
        refine hLn.mono ?_
        rintro e w' ⟨rfl, rfl⟩
        go_wp2_with fail
        refine hG.mono ?_
        rintro e w' ⟨rfl, rfl⟩
        go_wp2_with fail
        refine hP.mono ?_
        rintro e w' ⟨rfl, rfl⟩
        go_wp2_with fail
        go_roundw
        case rel =>
          first
          | exact ⟨x + 1, rfl, by omega, by omega, HB⟩
          | ((repeat apply Exists.intro); exact ⟨⟨x + 1, rfl, by omega, by omega, HB⟩, rfl⟩)
        case measure => simp [intOf]; omega
      · rw [hh] at hHAS
        obtain ⟨i, hi, hxe⟩ := has_pl hh
        have hiQ : i < Q.length := by omega
        obtain ⟨og, hQi⟩ : ∃ og, Q[i]? = some og := ⟨_, List.getElem?_eq_getElem hiQ⟩
        obtain ⟨o, g⟩ := og
        have hoi : os[i]? = some o := by rw [← HQ.out, List.getElem?_map, hQi]; rfl
        obtain ⟨k1, k2, k3⟩ := pl_kind os i o hoi
        rw [← hxe] at k1 k2 k3
        have hF := find_any B wr a Q.length c Q x (i : Int) HRr.out hq (.inl ⟨i, hiQ, by rw [HQ.out]; exact hxe, rfl⟩)
        have hok := HHr.out.ok o (List.mem_of_getElem? hoi)
        have hn1 := hok.n
        have hhx := fun I => holds_idx os i o I hoi
        rw [← hxe] at hhx
        have HGX : Hid (∀ (j : Nat) (y : Int), o.v[j]? = some y → getO os x (j : Int) = y) := fun j y hj => by rw [hxe]; exact pl_get os i j o y hoi hj
        obtain ⟨_, b, ha, z0, z1, z2, hxx⟩ := RowsR.at HRr.out i o g hQi
        subst ha
        have HWX : Hid (∀ (j : Nat) (y : Int), o.v[j]? = some y → wr.cell? ⟨g, j, none⟩ = some (.int .i32 y)) := hxx
        have hno1 : holdsO os x (-1) = false := by rw [hhx]; rfl
        have hno2 : holdsO os x (o.v.length : Int) = false := by rw [hhx]; simp
        have HKn : Hid (∀ nn, Calls Try.prog 12 #[.pointer (some ⟨p, 0, none⟩), .int .i64 x] (wr.drewN nn) fun e w' => e = .returned (.int .i64 (o.k : Int)) ∧ w' = wr.drewN nn) := fun nn => by
          have := kind_any _ _ _ _ _ _ x (HHr.out.later (below_draws _ wr nn))
          rw [k1] at this
          exact this.mono fun _ _ h => ⟨h.1, h.2.symm⟩
        have HLn : Hid (∀ nn, Calls Try.prog 13 #[.pointer (some ⟨p, 0, none⟩), .int .i64 x] (wr.drewN nn) fun e w' => e = .returned (.int .i64 (o.v.length : Int)) ∧ w' = wr.drewN nn) := fun nn => by
          have := len_any _ _ _ _ _ _ x (HHr.out.later (below_draws _ wr nn))
          rw [k2] at this
          exact this.mono fun _ _ h => ⟨h.1, h.2.symm⟩
        have HN1 : Hid (holdsO os x (-1) = false) := hno1
        have HN2 : Hid (holdsO os x (o.v.length : Int) = false) := hno2
        have HG1 : Hid (∀ nn I, holdsO os x I = false → Calls Try.prog 14 #[.pointer (some ⟨p, 0, none⟩), .int .i64 x, .int .i64 I] (wr.drewN nn) fun e w' => e = .returned (.int .i32 0) ∧ w' = wr.drewN nn) := fun nn I hI => (get_no _ _ _ _ _ _ x I (HHr.out.later (below_draws _ wr nn)) hI).mono fun _ _ h => ⟨h.1, h.2.symm⟩
        have HP1 : Hid (∀ nn I, holdsO os x I = false → Calls Try.prog 7 #[.pointer (some ⟨p, 0, none⟩), .int .i64 x, .int .i64 I, .int .i32 1] (wr.drewN nn) fun e w' => e = .returned (.bool false) ∧ w' = wr.drewN nn) := fun nn I hI => (put_no _ _ _ _ _ _ x I 1 (HHr.out.later (below_draws _ wr nn)) ⟨by omega, by omega⟩ hI).mono fun _ _ h => ⟨h.1, h.2.symm⟩
        have d2 : decide ((0 : Int) ≤ (i : Int)) = true := by rw [decide_eq_true_eq]; omega
        have d3 : decide ((i : Int) < 0) = false := by rw [decide_eq_false_iff_not]; omega
        have d4 : decide ((i : Int) < (Q.length : Int)) = true := by rw [decide_eq_true_eq]; omega
        have d5 : decide (i < Q.length) = true := by rw [decide_eq_true_eq]; omega
        clear hh hi hQi hoi k1 k2 k3 hhx hxx hno1 hno2 hok z0 hxe
        generalize hMM : o.v.length = M at *
        have HMM : Hid (o.v.length = M) := hMM
        clear hMM
        generalize o.k = K at *
        go_wp2_with fail
        refine hF.mono ?_
        rintro e w' ⟨rfl, rfl⟩
        go_wp2_with fail
        refine hHAS.mono ?_
        rintro e w' ⟨rfl, rfl⟩
        go_upto_region 12 with fail
        go_quiet (first | (go_at_call 12; exact Calls.quiet_of_same (HKn.out _)) | (go_at_call 13; exact Calls.quiet_of_same (HLn.out _)) | (go_at_call 14; exact Calls.quiet_of_same (HG1.out _ _ (by first | exact HN1.out | exact HN2.out))) | (go_at_call 7; exact Calls.quiet_of_same (HP1.out _ _ (by first | exact HN2.out | exact HN1.out))))
        have kq := below_draws wr.heap.size wr nq
        have HB2 : Hid (Below w.heap.size w (wr.drewN nq)) := HB.out.trans (kq.mono HB.out.size)
        have z2b := cellOn z2 kq
        have HWX2 : Hid (∀ (j : Nat) (y : Int), o.v[j]? = some y → (wr.drewN nq).cell? ⟨g, j, none⟩ = some (.int .i32 y)) := fun j y hj => cellOn (HWX.out j y hj) kq
        have HH2 : Hid (Hp Bh (wr.drewN nq) S p C os) := HHr.out.later kq
        generalize wr.drewN nq = w5 at *
        clear z1 z2 HKn HLn HG1 HP1 HN1 HN2 HWX HHr HRr kq hF hHAS
        go_wp2_with fail
        go_loopw [9] (fun ii wr => ∃ (j : Nat), ii = .int .i64 j ∧ j ≤ M ∧ Hid (Below w5.heap.size w5 wr)) (fun ii _ => M - (intOf ii).toNat)
        case atStart => exact ⟨0, rfl, by omega, Below.refl _ _⟩
        case round =>
          obtain ⟨j, rfl, hj, HBJ⟩ := hrel
          have z3 := cellOn z2b HBJ.out
          by_cases hlj : j < M
          · have HJ : Hid (j < M) := hlj
            obtain ⟨y, hy⟩ : ∃ y, o.v[j]? = some y := ⟨_, List.getElem?_eq_getElem (by rw [HMM.out]; exact hlj)⟩
            have zy := cellOn (HWX2.out j y hy) HBJ.out
            have HGn : Hid (∀ nn, Calls Try.prog 14 #[.pointer (some ⟨p, 0, none⟩), .int .i64 x, .int .i64 (j : Int)] (wr.drewN nn) fun e w' => e = .returned (.int .i32 y) ∧ w' = wr.drewN nn) := fun nn => by
              have := get_any _ _ _ _ _ _ x (j : Int) (HH2.out.later (HBJ.out.trans ((below_draws _ wr nn).mono HBJ.out.size)))
              rw [HGX.out j y hy] at this
              exact this.mono fun _ _ h => ⟨h.1, h.2.symm⟩
            have d6 : decide ((j : Int) < (M : Int)) = true := by rw [decide_eq_true_eq]; omega
            have d7 : decide (j < M) = true := by rw [decide_eq_true_eq]; omega
            clear hy
            go_upto_region 17 with fail
            go_quiet ((go_at_call 14; exact Calls.quiet_of_same (HGn.out _)))
            have hb6 : Hid (Below w5.heap.size w5 (wr.drewN nq)) := HBJ.out.trans ((below_draws wr.heap.size wr nq).mono HBJ.out.size)
            generalize wr.drewN nq = w6 at *
            go_wp2_with fail
            go_roundw
            case rel =>
              first
              | exact ⟨j + 1, by go_num, HJ.out, hb6⟩
              | ((repeat apply Exists.intro); exact ⟨⟨j + 1, by go_num, HJ.out, hb6⟩, rfl⟩)
            case measure => have := HJ.out; simp [intOf]; omega
          · have ej : j = M := by omega
            subst ej
            have d6 : decide ((j : Int) < (j : Int)) = false := by simp
            have d7 : decide (j < j) = false := by simp
            have HBE : Hid (Below w.heap.size w wr) := HB2.out.trans (HBJ.out.mono HB2.out.size)
            go_wp2_with fail
            go_roundw
            case rel =>
              first
              | exact ⟨x + 1, rfl, by omega, by omega, HBE⟩
              | ((repeat apply Exists.intro); exact ⟨⟨x + 1, rfl, by omega, by omega, HBE⟩, rfl⟩)
            case measure => simp [intOf]; omega
    · have hx3 : x = (L : Int) + 1 := by omega
      have d1 : decide (x ≤ (L : Int)) = false := by rw [decide_eq_false_iff_not]; exact hxl
      clear hx3
      go_wp2_with fail
      go_ret
      exact ⟨rfl, HB.out⟩
end Heap
end Go.Proofs.Ytpjccmcbagoplaa
