/- collect's lay: an object's copy. -/
import Derived.Test.YtogohjnpgdiddaaCollSays
import Derived.Deep.RegionWith
import Derived.Deep.DeepCutAuto
namespace Go.Proofs.Ytogohjnpgdiddaa
namespace Coll
open Mem Heap
open Go.RowKit
set_option linter.unusedVariables false
set_option linter.unusedSimpArgs false
set_option maxRecDepth 100000

theorem at_ob {os : List Ob} {a : Nat} (h : hasO os (a : Int) = true) : kindO os (a : Int) = ((obAt os a).k : Int) ∧ lenO os (a : Int) = ((obAt os a).v.length : Int) ∧ (∀ i : Nat, i < (obAt os a).v.length → getO os (a : Int) (i : Int) = (obAt os a).v.getD i 0) ∧ obAt os a ∈ os := by
  obtain ⟨_, pre, post, e1, e2⟩ := has_fit h
  generalize obAt os a = o at *
  subst e1
  subst e2
  exact ⟨kind_at _ _ _, len_at _ _ _, fun i hi => Heap.get_at _ _ _ i hi, by simp⟩
theorem put_pre (pre : List Ob) (o : Ob) (post : List Ob) (i : Nat) (x : Int) (hi : i < o.v.length) : holdsO (pre ++ o :: post) ((wordsO pre).length : Int) (i : Int) = true ∧ putS (pre ++ o :: post) ((wordsO pre).length : Int) (i : Int) x = pre ++ ⟨o.k, o.v.set i x⟩ :: post := by
  have hh : holdsO (pre ++ o :: post) ((wordsO pre).length : Int) (i : Int) = true := by
    unfold holdsO
    rw [len_at]
    simp; omega
  refine ⟨hh, ?_⟩
  unfold putS
  rw [if_pos hh, Int.toNat_natCast, Int.toNat_natCast, put_at]
theorem make_fit {n : Nat} {ts : List Ob} {o : Ob} (ho : o.Ok) (room : (wordsO ts).length + (o.v.length + 2) ≤ n) : makeB n ts (o.k : Int) (o.v.length : Int) = true ∧ makeA n ts (o.k : Int) (o.v.length : Int) = ((wordsO ts).length : Int) ∧ makeS n ts (o.k : Int) (o.v.length : Int) = ts ++ [⟨o.k, layV o.v 0⟩] := by
  have h1 := ho.k
  have h2 := ho.n
  have hB : makeB n ts (o.k : Int) (o.v.length : Int) = true := by
    simp [makeB, mayB]; omega
  refine ⟨hB, by simp [makeA, hB], ?_⟩
  rw [makeS, hB, lay_zero]
  simp [newOb]
set_option maxHeartbeats 2000000 in
theorem lay_any (B : Nat) (w : World) (S : Nat → Prop) (p n : Nat) (os : List Ob) (pm q : Nat) (ts : List Ob) (vm : Value) (a : Nat) (Bf : Nat) (Sf : Nat → Prop)
    (HF : Hp Bf w Sf p n os) (hlo : ∀ k, Sf k → k < B) (HT : Hp B w S q n ts) (hbx : w.heap[pm]? = some (.cells #[.pointer (some ⟨p, 0, none⟩), .pointer (some ⟨q, 0, none⟩), vm] 58 (0, 0))) (hpm : ¬ S pm) (ha : hasO os (a : Int) = true) (room : (wordsO ts).length + sz os a ≤ n) :
    Calls Try.prog 37 #[.pointer (some ⟨pm, 0, none⟩), .int .i64 (a : Int)] w fun e w' => e = .returned (.int .i64 ((wordsO ts).length : Int)) ∧ ∃ S', Hp B w' S' q n (ts ++ [obAt os a]) ∧ Off S w w' ∧ ∀ k, S' k → S k ∨ w.heap.size ≤ k := by
  obtain ⟨f1, f2, f3, f4⟩ := at_ob ha
  have hok := HF.ok _ f4
  unfold sz at room
  have HSf : Hid (∀ k, Sf k → ¬ S k) := fun k e e' => by have := hlo k e; have := (HT.raw.low k e').1; omega
  generalize obAt os a = o at *
  obtain ⟨m1, m2, m3⟩ := make_fit hok room
  have hn1 := hok.n
  have x0 := blk_cell hbx 0
  have x1 := blk_cell hbx 1
  simp only [List.getElem?_toArray, List.getElem?_cons_zero, List.getElem?_cons_succ] at x0 x1
  have HL := len_any _ _ _ _ _ _ (a : Int) HF
  rw [f2] at HL
  have HK : Hid (∀ wx, Below w.heap.size w wx → Calls Try.prog 18 #[.pointer (some ⟨p, 0, none⟩), .int .i64 (a : Int)] wx fun e w' => e = .returned (.int .i64 (o.k : Int)) ∧ wx = w') := fun wx hb => by
    have := kind_any _ _ _ _ _ _ (a : Int) (HF.later hb)
    rwa [f1] at this
  have HM : Hid (∀ wx, Below w.heap.size w wx → Calls Try.prog 27 #[.pointer (some ⟨q, 0, none⟩), .int .i64 (o.k : Int), .int .i64 (o.v.length : Int)] wx fun e w' => e = .returned (.tuple #[.int .i64 ((wordsO ts).length : Int), .bool true]) ∧ ∃ S', Hp B w' S' q n (ts ++ [⟨o.k, layV o.v 0⟩]) ∧ Off S wx w' ∧ ∀ k, S' k → S k ∨ wx.heap.size ≤ k) := fun wx hb => by
    have := make_any _ _ _ _ _ _ (o.k : Int) (o.v.length : Int) (HT.later hb)
    rwa [m1, m2, m3] at this
  have HF' : Hid _ := HF
  have HT' : Hid _ := HT
  have HB' : Hid _ := hbx
  have HG : Hid _ := f3
  clear HF HT hbx f1 f2 f3 f4 m1 m2 m3 hlo ha
  go_enter Try.func37, Try.ntmps37
  go_wp2_with fail
  refine HL.mono ?_
  rintro e w' ⟨rfl, rfl⟩
  go_upto_region 2 with fail
  have kd : Below w.heap.size w w.drew := (Below.refl _ _).drew
  go_cut [6] (fun v6 wx => v6 = .int .i64 ((wordsO ts).length : Int) ∧ Hid (∃ S', Hp B wx S' q n (ts ++ [⟨o.k, layV o.v 0⟩]) ∧ Off S w wx ∧ ∀ k, S' k → S k ∨ w.heap.size ≤ k))
  case first =>
    go_region_with (first | (go_at_call 18; refine (HK.out _ kd).mono ?_; rintro e w' ⟨rfl, rfl⟩) | (go_at_call 27; refine (HM.out _ kd).mono ?_; rintro e wm ⟨rfl, hm⟩))
    all_goals
      go_wp2_with fail
      go_meet
      case rel =>
        obtain ⟨S', h1, h2, h3⟩ := hm
        exact ⟨rfl, S', h1, (Off.below S kd).trans h2 (fun k e => .inl e), h3⟩
  case rest =>
    obtain ⟨rfl, h6⟩ := hcut
    have H6 : Hid _ := h6
    clear h6 HM
    obtain ⟨S1, h1, h2, h3⟩ := H6.out
    clear H6
    have L1 : Hid (Off S w wc) := h2
    have L3 : Hid (∀ k, S1 k → S k ∨ w.heap.size ≤ k) := h3
    have H1 : Hid _ := h1
    have hpml : Hid (∀ k, S1 k → ¬ (k = pm)) := fun k e e2 => by
      subst e2
      rcases h3 k e with h | h
      · exact hpm h
      · have := lt_of_block HB'.out; omega
    clear h1 h2 h3 kd HK
    go_wp2_with fail
    go_loopw [31] (fun i wr => ∃ (j : Nat), i = .int .i64 j ∧ j ≤ o.v.length ∧ Hid (Hp B wr S1 q n (ts ++ [⟨o.k, layV o.v j⟩])) ∧ Hid (Off S w wr)) (fun i _ => o.v.length - (intOf i).toNat)
    case atStart => exact ⟨0, rfl, by omega, H1, L1⟩
    case round =>
      clear H1 L1
      obtain ⟨j, rfl, hj, HH, HO⟩ := hrel
      by_cases hlj : j < o.v.length
      · have d1 : decide ((j : Int) < (o.v.length : Int)) = true := by simp; omega
        have d2 : decide (j < o.v.length) = true := by simp; omega
        have kd : Below wr.heap.size wr wr.drew := (Below.refl _ _).drew
        have hbr := blk_off (show w.heap[pm]? = some _ from HB'.out) HO.out hpm
        have y0 := blk_cell hbr 0
        have y1 := blk_cell hbr 1
        simp only [List.getElem?_toArray, List.getElem?_cons_zero, List.getElem?_cons_succ] at y0 y1
        have hx : Is32 (o.v.getD j 0) := by
          rw [List.getD, List.getElem?_eq_getElem hlj]
          exact hok.v _ (List.getElem_mem hlj)
        have HG1 : Hid (Calls Try.prog 20 #[.pointer (some ⟨p, 0, none⟩), .int .i64 (a : Int), .int .i64 (j : Int)] wr.drew fun e w' => e = .returned (.int .i32 (o.v.getD j 0)) ∧ wr.drew = w') := by
          have := get_any _ _ _ _ _ _ (a : Int) (j : Int) ((HF'.out.off HO.out HSf.out).later kd)
          rwa [HG.out j hlj] at this
        have HP1 : Hid (Calls Try.prog 25 #[.pointer (some ⟨q, 0, none⟩), .int .i64 ((wordsO ts).length : Int), .int .i64 (j : Int), .int .i32 (o.v.getD j 0)] wr.drew fun e w' => e = .returned (.bool true) ∧ Hp B w' S1 q n (ts ++ [⟨o.k, layV o.v (j + 1)⟩]) ∧ Off S1 wr.drew w') := by
          have hq := put_pre ts ⟨o.k, layV o.v j⟩ [] j (o.v.getD j 0) (by rw [lay_len]; exact hlj)
          have := put_any _ _ _ _ _ _ ((wordsO ts).length : Int) (j : Int) (o.v.getD j 0) (HH.out.later kd) hx
          rw [hq.1, hq.2] at this
          rw [lay_succ _ _ hlj]
          exact this.mono fun e w' h => ⟨h.1, h.2.1, h.2.2.1⟩
        clear hbr
        have HJ : Hid (j < o.v.length) := hlj
        generalize o.v.getD j 0 = X at *
        clear hlj
        go_upto_region 6 with fail
        go_region_with (first | (go_at_call 20; refine HG1.out.mono ?_; rintro e w' ⟨rfl, rfl⟩) | (go_at_call 25; refine HP1.out.mono ?_; rintro e wm ⟨rfl, hm1, hm2⟩))
        all_goals
          have HM1 : Hid _ := hm1
          have HM2 : Hid _ := (HO.out.trans (Off.below S kd) (fun k e => .inl e)).trans hm2 L3.out
          clear hm1 hm2
          go_wp2_with fail
          go_roundw
          case rel =>
            first
            | exact ⟨j + 1, by go_num, HJ.out, HM1, HM2⟩
            | ((repeat apply Exists.intro); exact ⟨⟨j + 1, by go_num, HJ.out, HM1, HM2⟩, rfl⟩)
          case measure => have := HJ.out; simp [intOf]; omega
      · obtain rfl : j = o.v.length := by omega
        have d1 : decide ((o.v.length : Int) < (o.v.length : Int)) = false := by simp
        have d2 : decide (o.v.length < o.v.length) = false := by simp
        go_wp2_with fail
        go_ret
        have h := HH.out
        rw [lay_all] at h
        exact ⟨rfl, S1, h, HO.out, L3.out⟩
end Coll
end Go.Proofs.Ytogohjnpgdiddaa
