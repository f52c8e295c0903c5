/- For all arguments the law HeapApart answers true: a word that is put turns no other one, of whichever object; no condition on the input. -/
import Derived.Test.YtjcnjjbokmbfkaaRows
import Derived.Test.YtjcnjjbokmbfkaaHeapRow
import Derived.WalkKit
import Derived.ProofKit
import Derived.OpenShut
import Derived.ShutString
import Derived.ChangeOld
import Derived.Below
namespace Go.Proofs.Ytjcnjjbokmbfkaa
namespace HeapApart
open Mem Heap
open Go.ChangeShapes Go.WideShapes Go.ChangeAt Go.RowKit
open Go.ChangeMaps (open_string shut_string)
set_option linter.unusedVariables false
set_option linter.unusedSimpArgs false
set_option maxRecDepth 100000

theorem mod_range (x : Int) (n : Nat) (hn : 0 < n) (h64 : n ≤ 1000000) (hx : -9223372036854775808 ≤ x ∧ x ≤ 9223372036854775807) : ∃ m : Nat, (wrap64 (x.tmod n + n)).tmod n = (m : Int) ∧ IntKind.i64.wrap (x.tmod n + n) = x.tmod n + n ∧ (x.tmod n + n).tmod n = (m : Int) ∧ m < n := by
  have h1 : -(n : Int) < x.tmod n := by
    have := Int.lt_tmod_of_pos x (show (0 : Int) < n by omega)
    omega
  have h2 : x.tmod n < n := Int.tmod_lt_of_pos x (by omega)
  have hw : wrap64 (x.tmod n + n) = x.tmod n + n := by unfold wrap64; omega
  have h3 : 0 ≤ (x.tmod n + n).tmod n := Int.tmod_nonneg _ (by omega)
  have h4 : (x.tmod n + n).tmod n < n := Int.tmod_lt_of_pos _ (by omega)
  refine ⟨((x.tmod n + n).tmod n).toNat, ?_, ?_, ?_, ?_⟩
  · rw [hw]; omega
  · rw [IntKind.wrap_i64]; omega
  · omega
  · omega
theorem zero_at (os : List Ob) (k : Nat) (hk : k < os.length) (hz : ∀ o ∈ os, ∀ y ∈ o.v, y = 0) (t : Nat) (ht : t < os[k].v.length) (x : Int) (hx : Is32 x) (hok : ∀ o ∈ os, Ob.Ok o) :
    holdsO os ((wordsO (os.take k)).length : Int) (t : Int) = true ∧ wordsO (putS os ((wordsO (os.take k)).length : Int) (t : Int) x) = (wordsO os).set ((wordsO (os.take k)).length + 2 + t) x ∧ (wordsO os)[(wordsO (os.take k)).length + 2 + t]? = some 0 ∧ getO (putS os ((wordsO (os.take k)).length : Int) (t : Int) x) ((wordsO (os.take k)).length : Int) (t : Int) = x ∧ (wordsO (os.take k)).length + 2 + t < (wordsO os).length := by
  have hsp := split_at os k hk
  generalize os.take k = p at *
  generalize os[k] = o at *
  generalize os.drop (k + 1) = q at *
  subst hsp
  have hh : holdsO (p ++ o :: q) ((wordsO p).length : Int) (t : Int) = true := by
    unfold holdsO
    rw [len_at]
    simp; omega
  have hp : putS (p ++ o :: q) ((wordsO p).length : Int) (t : Int) x = p ++ ⟨o.k, o.v.set t x⟩ :: q := by
    unfold putS
    rw [if_pos hh, Int.toNat_natCast, Int.toNat_natCast, put_at]
  have h0 := words_at p o q (2 + t) (by omega)
  have ho : (obW o)[2 + t]? = some 0 := by
    rw [show 2 + t = t + 1 + 1 by omega]
    simp only [obW, List.getElem?_cons_succ]
    rw [List.getElem?_eq_getElem ht, hz o (by simp) _ (List.getElem_mem _)]
  refine ⟨hh, by rw [hp, words_put p o q t x ht], by rw [Nat.add_assoc, h0, ho], ?_, by rw [words_len]; omega⟩
  rw [hp, Heap.get_at p ⟨o.k, o.v.set t x⟩ q t (by simpa using ht)]
  simp [List.getD, List.getElem?_set_self, ht]
theorem holds_zero (os : List Ob) (a : Int) (h : lenO os a = 0) : holdsO os a 0 = false := by
  unfold holdsO
  rw [h]
  rfl
set_option maxHeartbeats 8000000 in
theorem walk (a : Option Addr) (len cap : Nat) (z : List Int) (at' i x : Int) (w : World) (hz : IsRow .i64 w a len cap z) (h2 : (Lit.int .i64 at').wf = true) (h3 : (Lit.int .i64 i).wf = true) (h4 : (Lit.int .i32 x).wf = true) :
    Calls Try.prog 7 #[.slice a len cap, .int .i64 at', .int .i64 i, .int .i32 x] w fun e w' => e = .returned (.bool true) ∧ Below w.heap.size w w' := by
  have hat := bounds_i64 h2
  have hi := bounds_i64 h3
  have hx := is32_wf h4
  have hx' := hx
  obtain ⟨hxa, hxb⟩ := hx'
  have hmx := hz.max
  unfold maxLen at hmx
  obtain ⟨hR, hwf⟩ := hz.reads len (by omega)
  generalize z.take len = xs at *
  clear hz h2 h3 h4
  have hLx := hR.len
  obtain ⟨iN, hiN, hzN0, hzN1, hzN2⟩ := info_parts infoN
  go_enter Try.func7, Try.ntmps7
  go_wp2_with fail
  refine (begun_any _).mono ?_
  rintro e w1 ⟨rfl, b1⟩
  go_wp2_with fail
  refine (new_any 400 w1 (by omega)).mono ?_
  rintro e w2 ⟨rfl, H2, b2⟩
  have c4 : clampN 400 = 400 := by decide
  rw [c4] at H2
  have b12 := b1.trans (b2.mono b1.size)
  have H2 : Hid _ := H2
  go_upto_region 7 with fail
  go_loopw [11, 12] (fun st ki wr => ∃ (k : Nat) (os : List Ob) (S : Nat → Prop), ki = .int .i64 k ∧ k ≤ 10 ∧ k ≤ len ∧ os.length = k ∧ (wordsO os).length ≤ 21 * k ∧ Hid (∀ o ∈ os, ∀ y ∈ o.v, y = 0) ∧ wr.ownsRow w.heap.size 3 1 st k ((placesP os).map (Value.int .i64)) ∧ Hid (∀ kx, st.ownBlock = some kx → ¬ S kx) ∧ Hid (Hp w1.heap.size wr S w1.heap.size 400 os) ∧ Below w.heap.size w wr) (fun _ ki _ => 10 - (intOf ki).toNat)
  case atStart => exact ⟨0, [], _, rfl, by omega, by omega, rfl, by simp [wordsO], (fun o ho => by cases ho), World.ownsRow_nil _ _ _ _, (fun kx e => by cases e), H2, b12⟩
  case round =>
    obtain ⟨k, os, S, rfl, hk10, hkl, hok, hwl, hz, hst, hsep, H3, bw⟩ := hrel
    by_cases hin : k < len ∧ k < 10
    case pos =>
      obtain ⟨b, off, rfl, hc⟩ := hR.cells (by omega)
      have y0 := cellOn (hc k (by omega)) bw
      have hXb : -9223372036854775808 ≤ xs.getD k 0 ∧ xs.getD k 0 ≤ 9223372036854775807 := by
        rw [List.getD, List.getElem?_eq_getElem (by omega)]
        exact bounds_i64 (hwf _ (List.getElem_mem _))
      generalize xs.getD k 0 = X at *
      have d1 : decide ((k : Int) < (len : Int)) = true := by simp; omega
      have d2 : decide ((k : Int) < 10) = true := by simp; omega
      have e1 : (k : Int) < (len : Int) := by omega
      obtain ⟨m, hm, _, _, hm20⟩ := mod_range X 20 (by omega) (by omega) hXb
      have HM : Hid ((wrap64 (X.tmod 20 + 20)).tmod 20 = (m : Int)) := hm
      have hB : makeB 400 os (k : Int) (m : Int) = true := by
        unfold makeB mayB
        simp
        omega
      have HB : Hid _ := hB
      have hA : makeA 400 os (k : Int) (m : Int) = ((wordsO os).length : Int) := by unfold makeA; rw [hB]; rfl
      have hS : makeS 400 os (k : Int) (m : Int) = os ++ [newOb (k : Int) (m : Int)] := by unfold makeS; rw [hB]; rfl
      have HA : Hid _ := hA
      have HS : Hid _ := hS
      clear hc hm hB hA hS
      have HST : Hid (wr.ownsRow w.heap.size 3 1 u11 k ((placesP os).map (Value.int .i64))) := hst
      clear hst
      go_wp2_with fail
      rw [HM.out]
      refine (make_any _ _ _ _ _ _ (k : Int) (m : Int) H3.out).mono ?_
      rintro e w3 ⟨rfl, S3, H4, o3, hS3⟩
      rw [HB.out, HA.out]
      rw [HS.out] at H4
      have b3 := bw.trans (o3.to (B := w.heap.size) (fun k e => Nat.le_trans b1.size (H3.out.raw.low k e).1) bw.size)
      have hst3 := own_off (show World.ownsRow wr w.heap.size 3 1 u11 k ((placesP os).map (Value.int .i64)) from HST.out) o3 hsep.out
      have hsep3 : ∀ kx, u11.ownBlock = some kx → ¬ S3 kx := fun kx e h => by
        rcases hS3 kx h with h | h
        · exact hsep.out kx e h
        · have := (World.ownsRow.lt HST.out kx e).2
          omega
      have hwl2 : (wordsO (os ++ [newOb (k : Int) (m : Int)])).length ≤ 21 * (k + 1) := by
        have e0 : (wordsO ([] : List Ob)).length = 0 := rfl
        have e2 : (newOb (k : Int) (m : Int)).v.length = m := by simp [newOb]
        rw [wordsO_append, List.length_append, wordsO_cons, List.length_append, obW_len, e0, e2]
        omega
      have hz2 : Hid (∀ o ∈ os ++ [newOb (k : Int) (m : Int)], ∀ y ∈ o.v, y = 0) := fun o ho y hy => by
        rcases List.mem_append.1 ho with ho | ho
        · exact hz.out o ho y hy
        · rw [List.mem_singleton.1 ho] at hy
          exact (List.mem_replicate.1 hy).2
      have hpl : (os ++ [newOb (k : Int) (m : Int)]).length = k + 1 := by rw [List.length_append, hok]; rfl
      have HPL : Hid (placesP (os ++ [newOb (k : Int) (m : Int)]) = placesP os ++ [((wordsO os).length : Int)]) := places_snoc os _
      obtain ⟨sa, sc, rfl⟩ := own_sl hst3
      have ka := alloc1 w3 (.cells #[.int .i64 ((wordsO os).length : Int)] 3)
      have hst4 := own_later hst3 ka
      have HNW : Hid _ := news_one w3 (.int .i64 ((wordsO os).length : Int)) 3
      have kk := b3.trans (ka.mono b3.size)
      have hB := kk.size
      have HONE : Hid (∀ u ∈ ([.int .i64 ((wordsO os).length : Int)] : List Value), u.oneCell' = true) := by intro u hu; rw [List.mem_singleton.1 hu]; rfl
      have HST4 : Hid _ := hst4
      have H5 : Hid _ := H4.later ka
      have hS3lt : ∀ kx, S3 kx → kx < w3.heap.size := fun kx e => (H4.raw.low kx e).2
      have HLT : Hid _ := hS3lt
      have HSEP : Hid _ := hsep3
      clear hst3 hst4 HST hz hsep H3 H4 hS3 hsep3 hS3lt
      generalize hWL : (wordsO os).length = L at *
      have HWL : Hid _ := hWL
      clear hWL
      go_wp2_with (at_builtin; refine wpList_append_lies _ rfl (.tmp 49) (.tmp 51) 41 rfl w.heap.size 3 iN (.int .i64 0) 1 8 Try.underlying41 hiN hzN0 hzN1 hzN2 rfl (by decide) (.slice sa k sc) k ((placesP os).map (Value.int .i64)) rfl HST4.out ⟨w3.heap.size, 0, none⟩ 1 1 [.int .i64 (L : Int)] rfl rfl HNW.out HONE.out (by decide) (by unfold maxLen; omega) (by omega) hB _ rfl ?_; intro g' cap' w7 own7 g7 hat7 hlt7; have H7 : Hid _ := (show Hp _ _ _ _ _ _ from H5.out).off (Off.grown (S := fun kx => (Value.slice sa k sc).ownBlock = some kx) g7 (fun kx e => e)) (fun kx e e' => HSEP.out kx e' e))
      have kk7 := kk.grown g7 hB (fun kx e => (World.ownsRow.lt HST4.out kx e).1)
      go_roundw
      case rel =>
        refine ⟨k + 1, _, S3, by go_num, by omega, by omega, hpl, hwl2, hz2, ?_, ?_, H7, kk7⟩
        · rw [HPL.out, List.map_append]
          exact own7
        · intro kx e h
          have e' : g' = kx := by simpa [Value.ownBlock] using e
          subst e'
          rcases hat7 with h7 | h7
          · exact HSEP.out _ h7 h
          · have := HLT.out _ h
            rw [alloc_size] at h7
            omega
      case measure => simp [intOf]; omega
    by_cases hin2 : k < len
    case pos =>
      have d1 : decide ((k : Int) < (len : Int)) = true := by simp; omega
      have d2 : decide ((k : Int) < 10) = false := by simp; omega
      have d3 : ¬ (k < 10) := by omega
      obtain ⟨sa, sc, rfl⟩ := own_sl hst
      by_cases hN0 : k = 0
      case pos =>
        first
        | (exfalso; omega)
        | (subst hN0
           go_wp2_with fail
           go_ret
           exact ⟨rfl, bw⟩)
      by_cases hx0 : x = 0
      case pos =>
        subst hx0
        have dk : decide ((k : Int) = 0) = false := by simp; omega
        have dk2 : decide (k = 0) = false := by simp; omega
        have dk3 : ((k : Int) == 0) = false := by simp; omega
        go_wp2_with fail
        go_ret
        exact ⟨rfl, bw⟩
      obtain ⟨q, hq1, _, _, hqk⟩ := mod_range at' k (by omega) (by omega) hat
      have HQ : Hid _ := hq1
      clear hq1
      have hqo : q < os.length := by omega
      obtain ⟨f1, f2, f3, f4, f5, f6⟩ := at_facts os q hqo
      obtain ⟨sg, scap, e6, hsB, _, hsc1, hsc2⟩ := own_some hst (by omega)
      simp only [Value.slice.injEq, true_and] at e6
      obtain ⟨rfl, rfl⟩ := e6
      have z0 := own_cell hst q (.int .i64 ((wordsO (os.take q)).length : Int)) (by rw [List.getElem?_map, places_at os q hqo]; rfl)
      have HZ : Hid (∀ t, t < os[q].v.length → _) := fun t ht => zero_at os q hqo hz.out t ht x hx H3.out.ok
      have hkl := (H3.out.ok os[q] (List.getElem_mem _)).n
      have CL : Hid (∀ wx, Hp w1.heap.size wx S w1.heap.size 400 os → Calls Try.prog 19 #[.pointer (some ⟨w1.heap.size, 0, none⟩), .int .i64 ((wordsO (os.take q)).length : Int)] wx fun e w'' => e = .returned (.int .i64 (os[q].v.length : Int)) ∧ wx = w'') := fun wx hp => by
        have := len_any _ _ _ _ _ _ ((wordsO (os.take q)).length : Int) hp
        rw [f3] at this
        exact this
      have HH0 : Hid (os[q].v.length = 0 → holdsO os ((wordsO (os.take q)).length : Int) 0 = false) := fun h => holds_zero _ _ (by rw [f3, h]; rfl)
      have hw400 := H3.out.used.1
      clear f1 f2 f3 f4 f5 hst
      generalize hAq : (wordsO (os.take q)).length = A at *
      have HAq : Hid _ := hAq
      generalize hLq : os[q].v.length = KL at *
      have HLq : Hid _ := hLq
      clear hAq hLq
      have dk : decide ((k : Int) = 0) = false := by simp; omega
      have dk2 : decide (k = 0) = false := by simp; omega
      have dk3 : ((k : Int) == 0) = false := by simp; omega
      have dx : decide (x = 0) = false := by simp [hx0]
      have dx2 : (x == 0) = false := by simp [hx0]
      have kk0 : 0 < k := by omega
      have hqk' : (q : Int) < (k : Int) := by omega
      go_upto_region 14 with fail
      have HQ2 := HQ.out
      go_wp2_with fail
      refine (CL.out _ H3.out).mono ?_
      rintro e w' ⟨rfl, rfl⟩
      clear dk dk2 dk3 HQ2
      by_cases hKL : KL = 0
      case pos =>
        subst hKL
        have HP := put_any _ _ _ _ _ _ (A : Int) 0 x H3.out hx
        rw [HH0.out rfl] at HP
        go_wp2_with fail
        refine HP.mono ?_
        rintro e w8 ⟨rfl, H8, o8, _⟩
        go_wp2_with fail
        go_ret
        exact ⟨rfl, bw.trans (o8.to (B := w.heap.size) (fun k e => Nat.le_trans b1.size (H3.out.raw.low k e).1) bw.size)⟩
      obtain ⟨t, _, ht2, ht3, htk⟩ := mod_range i KL (by omega) (by omega) hi
      obtain ⟨g1, g2, g3, g4, g5⟩ := HZ.out t htk
      have G1 : Hid _ := g1
      have G2 : Hid _ := g2
      have G3 : Hid _ := g3
      have G4 : Hid _ := g4
      clear g1 g2 g3 g4 HZ HH0
      have CLN : Hid (∀ nn, Calls Try.prog 19 #[.pointer (some ⟨w1.heap.size, 0, none⟩), .int .i64 (A : Int)] (wr.drewN nn) fun e w'' => e = .returned (.int .i64 (KL : Int)) ∧ w'' = wr.drewN nn) := fun nn => (CL.out _ (H3.out.later (below_draws _ wr nn))).mono fun _ _ h => ⟨h.1, h.2.symm⟩
      have dk : decide ((KL : Int) = 0) = false := by simp; omega
      have dk2 : decide (KL = 0) = false := by simp; omega
      have dk3 : ((KL : Int) == 0) = false := by simp; omega
      have dk4 : ¬ ((KL : Int) = 0) := by omega
      have dk5 : ¬ (KL = 0) := by omega
      go_wp2_with fail
      go_quiet ((go_at_call 19; exact Calls.quiet_of_same (CLN.out _)))
      have kq := below_draws wr.heap.size wr nq
      have H5 := H3.out.later kq
      have b5 := bw.trans (kq.mono bw.size)
      have hS5 : ∀ kx, S kx → kx < (wr.drewN nq).heap.size := fun kx e => (H5.raw.low kx e).2
      generalize wr.drewN nq = w5 at *
      have hlow5 : ∀ kx, S kx → w.heap.size ≤ kx := fun kx e => Nat.le_trans b1.size (H5.raw.low kx e).1
      have HWD := words_any _ _ _ _ _ _ _ H5.raw
      have H5 : Hid _ := H5
      clear dk dk2 dk3 ht2 ht3
      go_wp2_with fail
      refine HWD.mono ?_
      rintro e w8 ⟨v8, rfl, own8, b8⟩
      obtain ⟨a8, c8, rfl⟩ := own_sl own8
      have b58 := b5.trans (b8.mono b5.size)
      have HP := put_any _ _ _ _ _ _ (A : Int) (t : Int) x (H5.out.later b8) hx
      rw [G1.out] at HP
      have O8 : Hid _ := own8
      clear own8
      go_wp2_with fail
      refine HP.mono ?_
      rintro e w9 ⟨rfl, H9, o9, _⟩
      have b59 := b58.trans (o9.to (B := w.heap.size) hlow5 b58.size)
      have O9 : Hid _ := own_off (show World.ownsRow _ _ _ _ _ _ _ from O8.out) o9 (fun kx e h => by have := (World.ownsRow.lt O8.out kx e).1; have := hS5 kx h; omega)
      have HWD2 := words_any _ _ _ _ _ _ _ H9.raw
      rw [G2.out, List.length_set] at HWD2
      have H9 : Hid _ := H9
      go_wp2_with fail
      refine HWD2.mono ?_
      rintro e w10 ⟨v10, rfl, own10, b10⟩
      obtain ⟨a10, c10, rfl⟩ := own_sl own10
      have b60 := b59.trans (b10.mono b59.size)
      have O10 : Hid _ := own10
      have P8 : Hid _ := own_later (show World.ownsRow _ _ _ _ _ _ _ from O9.out) b10
      have H10 : Hid _ := H9.out.later b10
      have HGET := get_any _ _ _ _ _ _ (A : Int) (t : Int) H10.out
      rw [G4.out] at HGET
      have HGET : Hid _ := HGET
      clear own10 HP HWD HWD2 O8 O9 H9 H5 CLN CL hS5 hlow5
      generalize hWS : wordsO os = ws at *
      have HWS : Hid _ := hWS
      clear hWS
      generalize hLW : ws.length = L at *
      have HLW : Hid _ := hLW
      clear hLW
      generalize hT : A + 2 + t = T at *
      have HT : Hid _ := hT
      clear hT
      go_upto_region 24 with fail
      go_loopw [19, 20] (fun cnt ji wq => ∃ j c : Nat, ji = .int .i64 j ∧ j ≤ L ∧ cnt = .int .i64 c ∧ c ≤ 1 ∧ Hid (c = if T < j then 1 else 0) ∧ Hid (wq.ownsRow w9.heap.size 21 1 (.slice a10 L c10) L ((ws.set T x).map (Value.int .i32))) ∧ Hid (wq.ownsRow w5.heap.size 21 1 (.slice a8 L c8) L (ws.map (Value.int .i32))) ∧ Hid (Hp w1.heap.size wq S w1.heap.size 400 (putS os (A : Int) (t : Int) x)) ∧ Below w.heap.size w wq) (fun _ ji _ => L - (intOf ji).toNat)
      case atStart => exact ⟨0, 0, rfl, Nat.zero_le _, rfl, by omega, (show 0 = _ by simp), O10, P8, H10, b60⟩
      case round =>
        clear O10 P8 H10 b60 HGET
        obtain ⟨j, c, rfl, hj, rfl, hc1, hc, Q10, Q8, QH, bq⟩ := hrel
        have q10 := Q10.out
        have q8 := Q8.out
        by_cases hjL : j < L
        case pos =>
          obtain ⟨g10, k10, e6, _, _, h10c, h10d⟩ := own_some q10 (by omega)
          simp only [Value.slice.injEq, true_and] at e6
          obtain ⟨rfl, rfl⟩ := e6
          obtain ⟨g8, k8, e6, _, _, h8c, h8d⟩ := own_some q8 (by omega)
          simp only [Value.slice.injEq, true_and] at e6
          obtain ⟨rfl, rfl⟩ := e6
          have hjw : j < ws.length := by rw [HLW.out]; exact hjL
          have d1 : decide ((j : Int) < (L : Int)) = true := by simp; omega
          have e7 : (j : Int) < (L : Int) := by omega
          by_cases hjT : j = T
          case pos =>
            subst hjT
            have z0 := own_cell q10 j (.int .i32 x) (by rw [List.getElem?_map, List.getElem?_set_self hjw]; rfl)
            have z1 := own_cell q8 j (.int .i32 0) (by rw [List.getElem?_map, G3.out]; rfl)
            have hc0 : c = 0 := by have := hc.out; simpa using this
            subst hc0
            clear q10 q8 hc
            go_wp2_with fail
            go_quiet (fail)
            go_wp2_with fail
            exact ⟨⟨j + 1, 1, by go_num, by omega, rfl, by omega, (show 1 = _ by simp), own_later Q10.out (below_draws _ _ _), own_later Q8.out (below_draws _ _ _), QH.out.later (below_draws _ _ _), bq.trans (below_draws _ _ _)⟩, by simp [intOf]; omega⟩
          case neg =>
            have z0 := own_cell q10 j (.int .i32 (ws.getD j 0)) (by rw [List.getElem?_map, List.getElem?_set_ne (fun e => hjT e.symm), List.getElem?_eq_getElem hjw]; simp [List.getD, List.getElem?_eq_getElem hjw])
            have z1 := own_cell q8 j (.int .i32 (ws.getD j 0)) (by rw [List.getElem?_map, List.getElem?_eq_getElem hjw]; simp [List.getD, List.getElem?_eq_getElem hjw])
            generalize ws.getD j 0 = U at *
            have hcn : Hid (c = if T < j + 1 then 1 else 0) := by
              show c = _
              rw [hc.out]
              by_cases h : T < j
              · rw [if_pos h, if_pos (by omega)]
              · rw [if_neg h, if_neg (by omega)]
            clear q10 q8 hc
            go_wp2_with fail
            go_quiet (fail)
            go_wp2_with fail
            exact ⟨⟨j + 1, c, by go_num, by omega, rfl, hc1, hcn, own_later Q10.out (below_draws _ _ _), own_later Q8.out (below_draws _ _ _), QH.out.later (below_draws _ _ _), bq.trans (below_draws _ _ _)⟩, by simp [intOf]; omega⟩
        case neg =>
          obtain ⟨g10, k10, e6, _, _, h10c, h10d⟩ := own_some q10 (by omega)
          simp only [Value.slice.injEq, true_and] at e6
          obtain ⟨rfl, rfl⟩ := e6
          have hTw : T < ws.length := by rw [HLW.out]; exact g5
          have z0 := own_cell q10 T (.int .i32 x) (by rw [List.getElem?_map, List.getElem?_set_self hTw]; rfl)
          have hc0 : c = 1 := by have := hc.out; rw [if_pos (by omega)] at this; exact this
          subst hc0
          have d1 : decide ((j : Int) < (L : Int)) = false := by simp; omega
          have d2 : ¬ (j < L) := hjL
          have HG2 := get_any _ _ _ _ _ _ (A : Int) (t : Int) QH.out
          rw [G4.out] at HG2
          obtain rfl := HT.out
          clear q10 q8 hc
          go_wp2_with fail
          refine HG2.mono ?_
          rintro e w' ⟨rfl, rfl⟩
          go_wp2_with fail
          go_ret
          exact ⟨by simp, bq⟩
    case neg =>
      have d1 : decide ((k : Int) < (len : Int)) = false := by simp; omega
      obtain ⟨sa, sc, rfl⟩ := own_sl hst
      by_cases hN0 : k = 0
      case pos =>
        first
        | (exfalso; omega)
        | (subst hN0
           go_wp2_with fail
           go_ret
           exact ⟨rfl, bw⟩)
      by_cases hx0 : x = 0
      case pos =>
        subst hx0
        have dk : decide ((k : Int) = 0) = false := by simp; omega
        have dk2 : decide (k = 0) = false := by simp; omega
        have dk3 : ((k : Int) == 0) = false := by simp; omega
        go_wp2_with fail
        go_ret
        exact ⟨rfl, bw⟩
      obtain ⟨q, hq1, _, _, hqk⟩ := mod_range at' k (by omega) (by omega) hat
      have HQ : Hid _ := hq1
      clear hq1
      have hqo : q < os.length := by omega
      obtain ⟨f1, f2, f3, f4, f5, f6⟩ := at_facts os q hqo
      obtain ⟨sg, scap, e6, hsB, _, hsc1, hsc2⟩ := own_some hst (by omega)
      simp only [Value.slice.injEq, true_and] at e6
      obtain ⟨rfl, rfl⟩ := e6
      have z0 := own_cell hst q (.int .i64 ((wordsO (os.take q)).length : Int)) (by rw [List.getElem?_map, places_at os q hqo]; rfl)
      have HZ : Hid (∀ t, t < os[q].v.length → _) := fun t ht => zero_at os q hqo hz.out t ht x hx H3.out.ok
      have hkl := (H3.out.ok os[q] (List.getElem_mem _)).n
      have CL : Hid (∀ wx, Hp w1.heap.size wx S w1.heap.size 400 os → Calls Try.prog 19 #[.pointer (some ⟨w1.heap.size, 0, none⟩), .int .i64 ((wordsO (os.take q)).length : Int)] wx fun e w'' => e = .returned (.int .i64 (os[q].v.length : Int)) ∧ wx = w'') := fun wx hp => by
        have := len_any _ _ _ _ _ _ ((wordsO (os.take q)).length : Int) hp
        rw [f3] at this
        exact this
      have HH0 : Hid (os[q].v.length = 0 → holdsO os ((wordsO (os.take q)).length : Int) 0 = false) := fun h => holds_zero _ _ (by rw [f3, h]; rfl)
      have hw400 := H3.out.used.1
      clear f1 f2 f3 f4 f5 hst
      generalize hAq : (wordsO (os.take q)).length = A at *
      have HAq : Hid _ := hAq
      generalize hLq : os[q].v.length = KL at *
      have HLq : Hid _ := hLq
      clear hAq hLq
      have dk : decide ((k : Int) = 0) = false := by simp; omega
      have dk2 : decide (k = 0) = false := by simp; omega
      have dk3 : ((k : Int) == 0) = false := by simp; omega
      have dx : decide (x = 0) = false := by simp [hx0]
      have dx2 : (x == 0) = false := by simp [hx0]
      have kk0 : 0 < k := by omega
      have hqk' : (q : Int) < (k : Int) := by omega
      go_upto_region 14 with fail
      have HQ2 := HQ.out
      go_wp2_with fail
      refine (CL.out _ H3.out).mono ?_
      rintro e w' ⟨rfl, rfl⟩
      clear dk dk2 dk3 HQ2
      by_cases hKL : KL = 0
      case pos =>
        subst hKL
        have HP := put_any _ _ _ _ _ _ (A : Int) 0 x H3.out hx
        rw [HH0.out rfl] at HP
        go_wp2_with fail
        refine HP.mono ?_
        rintro e w8 ⟨rfl, H8, o8, _⟩
        go_wp2_with fail
        go_ret
        exact ⟨rfl, bw.trans (o8.to (B := w.heap.size) (fun k e => Nat.le_trans b1.size (H3.out.raw.low k e).1) bw.size)⟩
      obtain ⟨t, _, ht2, ht3, htk⟩ := mod_range i KL (by omega) (by omega) hi
      obtain ⟨g1, g2, g3, g4, g5⟩ := HZ.out t htk
      have G1 : Hid _ := g1
      have G2 : Hid _ := g2
      have G3 : Hid _ := g3
      have G4 : Hid _ := g4
      clear g1 g2 g3 g4 HZ HH0
      have CLN : Hid (∀ nn, Calls Try.prog 19 #[.pointer (some ⟨w1.heap.size, 0, none⟩), .int .i64 (A : Int)] (wr.drewN nn) fun e w'' => e = .returned (.int .i64 (KL : Int)) ∧ w'' = wr.drewN nn) := fun nn => (CL.out _ (H3.out.later (below_draws _ wr nn))).mono fun _ _ h => ⟨h.1, h.2.symm⟩
      have dk : decide ((KL : Int) = 0) = false := by simp; omega
      have dk2 : decide (KL = 0) = false := by simp; omega
      have dk3 : ((KL : Int) == 0) = false := by simp; omega
      have dk4 : ¬ ((KL : Int) = 0) := by omega
      have dk5 : ¬ (KL = 0) := by omega
      go_wp2_with fail
      go_quiet ((go_at_call 19; exact Calls.quiet_of_same (CLN.out _)))
      have kq := below_draws wr.heap.size wr nq
      have H5 := H3.out.later kq
      have b5 := bw.trans (kq.mono bw.size)
      have hS5 : ∀ kx, S kx → kx < (wr.drewN nq).heap.size := fun kx e => (H5.raw.low kx e).2
      generalize wr.drewN nq = w5 at *
      have hlow5 : ∀ kx, S kx → w.heap.size ≤ kx := fun kx e => Nat.le_trans b1.size (H5.raw.low kx e).1
      have HWD := words_any _ _ _ _ _ _ _ H5.raw
      have H5 : Hid _ := H5
      clear dk dk2 dk3 ht2 ht3
      go_wp2_with fail
      refine HWD.mono ?_
      rintro e w8 ⟨v8, rfl, own8, b8⟩
      obtain ⟨a8, c8, rfl⟩ := own_sl own8
      have b58 := b5.trans (b8.mono b5.size)
      have HP := put_any _ _ _ _ _ _ (A : Int) (t : Int) x (H5.out.later b8) hx
      rw [G1.out] at HP
      have O8 : Hid _ := own8
      clear own8
      go_wp2_with fail
      refine HP.mono ?_
      rintro e w9 ⟨rfl, H9, o9, _⟩
      have b59 := b58.trans (o9.to (B := w.heap.size) hlow5 b58.size)
      have O9 : Hid _ := own_off (show World.ownsRow _ _ _ _ _ _ _ from O8.out) o9 (fun kx e h => by have := (World.ownsRow.lt O8.out kx e).1; have := hS5 kx h; omega)
      have HWD2 := words_any _ _ _ _ _ _ _ H9.raw
      rw [G2.out, List.length_set] at HWD2
      have H9 : Hid _ := H9
      go_wp2_with fail
      refine HWD2.mono ?_
      rintro e w10 ⟨v10, rfl, own10, b10⟩
      obtain ⟨a10, c10, rfl⟩ := own_sl own10
      have b60 := b59.trans (b10.mono b59.size)
      have O10 : Hid _ := own10
      have P8 : Hid _ := own_later (show World.ownsRow _ _ _ _ _ _ _ from O9.out) b10
      have H10 : Hid _ := H9.out.later b10
      have HGET := get_any _ _ _ _ _ _ (A : Int) (t : Int) H10.out
      rw [G4.out] at HGET
      have HGET : Hid _ := HGET
      clear own10 HP HWD HWD2 O8 O9 H9 H5 CLN CL hS5 hlow5
      generalize hWS : wordsO os = ws at *
      have HWS : Hid _ := hWS
      clear hWS
      generalize hLW : ws.length = L at *
      have HLW : Hid _ := hLW
      clear hLW
      generalize hT : A + 2 + t = T at *
      have HT : Hid _ := hT
      clear hT
      go_upto_region 24 with fail
      go_loopw [19, 20] (fun cnt ji wq => ∃ j c : Nat, ji = .int .i64 j ∧ j ≤ L ∧ cnt = .int .i64 c ∧ c ≤ 1 ∧ Hid (c = if T < j then 1 else 0) ∧ Hid (wq.ownsRow w9.heap.size 21 1 (.slice a10 L c10) L ((ws.set T x).map (Value.int .i32))) ∧ Hid (wq.ownsRow w5.heap.size 21 1 (.slice a8 L c8) L (ws.map (Value.int .i32))) ∧ Hid (Hp w1.heap.size wq S w1.heap.size 400 (putS os (A : Int) (t : Int) x)) ∧ Below w.heap.size w wq) (fun _ ji _ => L - (intOf ji).toNat)
      case atStart => exact ⟨0, 0, rfl, Nat.zero_le _, rfl, by omega, (show 0 = _ by simp), O10, P8, H10, b60⟩
      case round =>
        clear O10 P8 H10 b60 HGET
        obtain ⟨j, c, rfl, hj, rfl, hc1, hc, Q10, Q8, QH, bq⟩ := hrel
        have q10 := Q10.out
        have q8 := Q8.out
        by_cases hjL : j < L
        case pos =>
          obtain ⟨g10, k10, e6, _, _, h10c, h10d⟩ := own_some q10 (by omega)
          simp only [Value.slice.injEq, true_and] at e6
          obtain ⟨rfl, rfl⟩ := e6
          obtain ⟨g8, k8, e6, _, _, h8c, h8d⟩ := own_some q8 (by omega)
          simp only [Value.slice.injEq, true_and] at e6
          obtain ⟨rfl, rfl⟩ := e6
          have hjw : j < ws.length := by rw [HLW.out]; exact hjL
          have d1 : decide ((j : Int) < (L : Int)) = true := by simp; omega
          have e7 : (j : Int) < (L : Int) := by omega
          by_cases hjT : j = T
          case pos =>
            subst hjT
            have z0 := own_cell q10 j (.int .i32 x) (by rw [List.getElem?_map, List.getElem?_set_self hjw]; rfl)
            have z1 := own_cell q8 j (.int .i32 0) (by rw [List.getElem?_map, G3.out]; rfl)
            have hc0 : c = 0 := by have := hc.out; simpa using this
            subst hc0
            clear q10 q8 hc
            go_wp2_with fail
            go_quiet (fail)
            go_wp2_with fail
            exact ⟨⟨j + 1, 1, by go_num, by omega, rfl, by omega, (show 1 = _ by simp), own_later Q10.out (below_draws _ _ _), own_later Q8.out (below_draws _ _ _), QH.out.later (below_draws _ _ _), bq.trans (below_draws _ _ _)⟩, by simp [intOf]; omega⟩
          case neg =>
            have z0 := own_cell q10 j (.int .i32 (ws.getD j 0)) (by rw [List.getElem?_map, List.getElem?_set_ne (fun e => hjT e.symm), List.getElem?_eq_getElem hjw]; simp [List.getD, List.getElem?_eq_getElem hjw])
            have z1 := own_cell q8 j (.int .i32 (ws.getD j 0)) (by rw [List.getElem?_map, List.getElem?_eq_getElem hjw]; simp [List.getD, List.getElem?_eq_getElem hjw])
            generalize ws.getD j 0 = U at *
            have hcn : Hid (c = if T < j + 1 then 1 else 0) := by
              show c = _
              rw [hc.out]
              by_cases h : T < j
              · rw [if_pos h, if_pos (by omega)]
              · rw [if_neg h, if_neg (by omega)]
            clear q10 q8 hc
            go_wp2_with fail
            go_quiet (fail)
            go_wp2_with fail
            exact ⟨⟨j + 1, c, by go_num, by omega, rfl, hc1, hcn, own_later Q10.out (below_draws _ _ _), own_later Q8.out (below_draws _ _ _), QH.out.later (below_draws _ _ _), bq.trans (below_draws _ _ _)⟩, by simp [intOf]; omega⟩
        case neg =>
          obtain ⟨g10, k10, e6, _, _, h10c, h10d⟩ := own_some q10 (by omega)
          simp only [Value.slice.injEq, true_and] at e6
          obtain ⟨rfl, rfl⟩ := e6
          have hTw : T < ws.length := by rw [HLW.out]; exact g5
          have z0 := own_cell q10 T (.int .i32 x) (by rw [List.getElem?_map, List.getElem?_set_self hTw]; rfl)
          have hc0 : c = 1 := by have := hc.out; rw [if_pos (by omega)] at this; exact this
          subst hc0
          have d1 : decide ((j : Int) < (L : Int)) = false := by simp; omega
          have d2 : ¬ (j < L) := hjL
          have HG2 := get_any _ _ _ _ _ _ (A : Int) (t : Int) QH.out
          rw [G4.out] at HG2
          obtain rfl := HT.out
          clear q10 q8 hc
          go_wp2_with fail
          refine HG2.mono ?_
          rintro e w' ⟨rfl, rfl⟩
          go_wp2_with fail
          go_ret
          exact ⟨by simp, bq⟩

/-! ### The row -/
theorem own : ownKnob Try.prog.godebug = none := by kernel_rfl
theorem laidOut : laidOutB Try.prog = true := by kernel_rfl
set_option maxRecDepth 100000 in
theorem lifted (os : Os) (started : os.Started) (H : Type) (enc : TypeId × Value → H) :
    ReturnsInHanded {} Try.checked os 7 .any (Rows.heapApartSpec.pre6 enc Try.prog Try.f7 Rows.heapApartRow.domain false) (Rows.heapApartSpec.post enc Try.prog Try.f7 false true false false) := by
  refine returnsInHanded_of_change (C := Try.checked) own started (by kernel_rfl) Try.func7
    (ChangeSpec.witness6 (enc := enc) (C := Try.checked) false ⟨#[], #[.slice none 0 0, .int .i64 0, .int .i64 0, .int .i32 0], []⟩ 8 (by kernel_rfl) (by kernel_rfl) (by kernel_rfl) (by kernel_rfl)) ?_
  intro W base args ds gs before hval0 hW hcnd _
  have hval : ∀ (j : Nat) t v, Try.f7.params[j]? = some t → args[j]? = some v → Value.okWide Try.prog W .any base t v := hval0
  have hW' := hW
  obtain ⟨p, q, hA0, hV, rfl, hfz, hnd⟩ := hW
  have hA : DataW.TrodAll enc Try.prog W 0 (fun _ => true) true Try.f7.params.toList args.toList ds p := hA0
  rw [Try.params7] at hA hval
  obtain ⟨v0, vs0, d0, ds0, p0, q0, hargs, rfl, rfl, h0, r0⟩ := trodAll_cons hA
  obtain ⟨v1, vs1, d1, ds1, p1, q1, rfl, rfl, rfl, h1, r1⟩ := trodAll_cons r0
  obtain ⟨v2, vs2, d2, ds2, p2, q2, rfl, rfl, rfl, h2, r2⟩ := trodAll_cons r1
  obtain ⟨v3, vs3, d3, ds3, p3, q3, rfl, rfl, rfl, h3, r3⟩ := trodAll_cons r2
  obtain ⟨rfl, rfl, rfl⟩ := trodAll_nil r3
  obtain rfl : args = #[v0, v1, v2, v3] := by cases args; simp_all
  obtain ⟨rfl, rfl⟩ := trodVars_none hV
  obtain ⟨a0, len0, cap0, rfl⟩ := okWide_slice Try.underlying41 (hval 0 41 v0 rfl rfl)
  have k0 := h0
  have lt0 : ∀ x ∈ p0, x.block < W.heap.size := by obtain ⟨m, hm⟩ := k0; exact DataW.trod_lt m _ _ _ hm
  obtain ⟨z0, w0⟩ : ∃ zs, IsRow .i64 W a0 len0 cap0 zs := by
    obtain ⟨fuel, hf⟩ := h0
    rcases open_ints Try.underlying41 Try.underlying3 (by kernel_rfl) hf with ⟨hcs, _⟩ | ⟨x, l, c, zs, hcs, _, hl, hm, hz, _, hcell, hwz⟩
    · simp [Value.cells] at hcs
      obtain ⟨rfl, rfl, rfl⟩ := hcs
      exact ⟨[], .inl ⟨rfl, rfl, rfl, rfl⟩⟩
    · simp [Value.cells] at hcs
      obtain ⟨rfl, rfl, rfl⟩ := hcs
      exact ⟨zs, .inr ⟨_, rfl, hl, hm, by simpa using hz, hcell, hwz⟩⟩
  obtain ⟨a1, rfl, rfl, rfl, w1⟩ := open_int Try.underlying3 (hval 1 3 v1 rfl rfl) h1
  obtain ⟨a2, rfl, rfl, rfl, w2⟩ := open_int Try.underlying3 (hval 2 3 v2 rfl rfl) h2
  obtain ⟨a3, rfl, rfl, rfl, w3⟩ := open_int Try.underlying21 (hval 3 21 v3 rfl rfl) h3
  clear hA0 hval0
  refine (walk a0 len0 cap0 z0 a1 a2 a3 W w0 w1 w2 w3).mono fun e W' ⟨he, bel⟩ => ?_
  subst he
  exact ⟨_, rfl, _, _, _, [], _, [], hW', trodAll_mk1 (shut_bool Try.underlying4 _), (trodAll_cons_mk (Below.trod laidOut (by kernel_rfl) (of_decide_eq_true (by kernel_rfl)) k0 bel lt0) (trodAll_cons_mk (shut_int Try.underlying3 w1) (trodAll_cons_mk (shut_int Try.underlying3 w2) (trodAll_cons_mk (shut_int Try.underlying21 w3) trodAll_mk0)))), rfl, bel.frame _, fun h => by cases h⟩

theorem over : Rows.heapApartRow.holds Try.pinned (OpenSpec.ofChange Rows.heapApartSpec) :=
  OpenClaim.holds_of_wide 7 Try.f7 rfl rfl rfl rfl rfl rfl rfl ⟨rfl, rfl, rfl, rfl, rfl⟩ rfl rfl rfl rfl rfl (by kernel_rfl) Try.func7 (by kernel_rfl)
    (of_decide_eq_true (by kernel_rfl)) (by unfold Func.isWrapper; first | (rw [if_pos (by decide +kernel)]; kernel_rfl) | (rw [if_neg (by decide +kernel)]; exact ⟨rfl, rfl⟩))
    (fun os started H enc _ => lifted os started H enc)

end HeapApart

theorem heapApart_holds : Rows.HeapApartSaid := HeapApart.over
#print axioms heapApart_holds
end Go.Proofs.Ytjcnjjbokmbfkaa
