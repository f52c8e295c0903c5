/- collect's turn: what a copy's references name is moved, and they name the copies. -/
import Derived.Test.YtogohjnpgdiddaaCollMove
namespace Go.Proofs.Ytogohjnpgdiddaa
namespace Coll
open Mem Heap
open Go.RowKit
set_option linter.unusedVariables false
set_option linter.unusedSimpArgs false
set_option maxRecDepth 100000

theorem mv_to {B : Nat} {w : World} {p n : Nat} {os : List Ob} {pm : Nat} {M : Nat → Prop} {q : Nat} {ts : List Ob} {out : List Nat} (h : Mv B w p n os pm M q ts out) : ∃ S, Hp B w S q n ts ∧ ∀ k, S k → M k := by
  obtain ⟨_, ⟨S, vm, h1, h2, h3, h4, h5⟩, _⟩ := h
  exact ⟨S, h1, h4⟩
theorem mv_put {B : Nat} {w : World} {p n : Nat} {os : List Ob} {pm : Nat} {M : Nat → Prop} {q : Nat} {p1 p2 : List Ob} {o : Ob} {out : List Nat} (H : Mv B w p n os pm M q (p1 ++ o :: p2) out) (T j : Nat) (x : Int) (hT : (wordsO p1).length = T) (hj : j < o.v.length) (hx : Is32 x) :
    Calls Try.prog 25 #[.pointer (some ⟨q, 0, none⟩), .int .i64 (T : Int), .int .i64 (j : Int), .int .i32 x] w fun e w' => e = .returned (.bool true) ∧ Mv B w' p n os pm M q (p1 ++ ⟨o.k, o.v.set j x⟩ :: p2) out ∧ Off M w w' := by
  obtain ⟨⟨Bf, Sf, hF, hlo⟩, ⟨S, vm, h1, h2, h3, h4, h5⟩, hb, hl, hg, hs⟩ := H
  have hq := put_pre p1 o p2 j x hj
  rw [hT] at hq
  have := put_any _ _ _ _ _ _ (T : Int) (j : Int) x h1 hx
  rw [hq.1, hq.2] at this
  refine this.mono ?_
  rintro e w' ⟨rfl, g1, g2, _⟩
  refine ⟨rfl, ⟨⟨Bf, Sf, hF.off g2 (fun k e e' => by have := hlo k e; have := (h1.raw.low k e').1; omega), hlo⟩, ⟨S, vm, g1, blk_off h2 g2 (fun e => hb.2 (h4 pm e)), own_off h3 g2 (fun k e => (h5 k e).2), h4, h5⟩, hb, fun k e => ⟨(hl k e).1, Nat.lt_of_lt_of_le (hl k e).2 g2.size⟩, hg, ?_⟩, g2.mono (fun k _ e => h4 k e)⟩
  rw [words_len] at hs ⊢
  simpa using hs
theorem drop_post {pre : List Nat} {a : Nat} {post : List Nat} {out' : List Nat} (h : pre ++ a :: post <+: out') : out' = pre ++ a :: (post ++ out'.drop (pre ++ a :: post).length) := by
  obtain ⟨e, rfl⟩ := h
  rw [List.drop_left]
  simp
set_option maxHeartbeats 4000000 in
theorem turn_any (f : Nat → Nat → Bool) (rf : Value) (hrf : Rf rf f) (B : Nat) (w : World) (p n : Nat) (os : List Ob) (pm : Nat) (M : Nat → Prop) (q : Nat) (pre : List Nat) (a : Nat) (post fin : List Nat) (T : Nat) (hT : T = total os pre)
    (H : Mv B w p n os pm M q (pre.map (turnO f os fin) ++ (a :: post).map (obAt os)) (pre ++ a :: post)) (hfin : scanA f os (pre ++ a :: post) a <+: fin) :
    Calls Try.prog 31 #[.pointer (some ⟨pm, 0, none⟩), .int .i64 (T : Int), rf] w fun e w' => e = .returned (.tuple #[]) ∧ ∃ M' post', scanA f os (pre ++ a :: post) a = pre ++ a :: post' ∧ Mv B w' p n os pm M' q ((pre ++ [a]).map (turnO f os fin) ++ post'.map (obAt os)) (pre ++ a :: post') ∧ Off M w w' ∧ ∀ k, M' k → M k ∨ w.heap.size ≤ k := by
  obtain ⟨hu1, hu2, hok⟩ := mv_used H
  have hha := H.good.2 a (by simp)
  have hob := hok _ (at_ob hha).2.2.2
  have hTT : (wordsO (pre.map (turnO f os fin))).length = T := by
    rw [hT]
    exact words_sum os _ (fun b => by simp [turnO, partO, part_len, sz]) pre
  unfold scanA at hfin ⊢
  have hln := hob.n
  have hvo := hob.v
  have hraw : (a :: post).map (obAt os) = partO f os fin a 0 :: post.map (obAt os) := by rw [partO_zero]; rfl
  rw [hraw] at H
  clear hraw
  have HTO : Hid ((pre ++ [a]).map (turnO f os fin) = pre.map (turnO f os fin) ++ [partO f os fin a (obAt os a).v.length]) := by
    show (pre ++ [a]).map (turnO f os fin) = _
    rw [List.map_append]
    rfl
  rw [show (pre ++ [a]).map (turnO f os fin) = pre.map (turnO f os fin) ++ [partO f os fin a (obAt os a).v.length] from HTO.out]
  clear HTO
  have HPO : Hid (∀ j, partO f os fin a j = ⟨(obAt os a).k, partV (f (obAt os a).k) os fin (obAt os a).v j⟩) := fun j => rfl
  generalize hP1 : pre.map (turnO f os fin) = P1 at *
  clear hP1
  generalize hK : (obAt os a).k = K at *
  generalize hV : (obAt os a).v = V at *
  obtain ⟨S, hto, _⟩ := mv_to H
  have HK := kind_any _ _ _ _ _ _ (T : Int) hto
  have HL := len_any _ _ _ _ _ _ (T : Int) hto
  have k1 := kind_at P1 (partO f os fin a 0) (post.map (obAt os))
  have k2 := len_at P1 (partO f os fin a 0) (post.map (obAt os))
  rw [hTT] at k1 k2
  rw [k1] at HK
  rw [k2] at HL
  rw [HPO.out 0] at HK HL
  simp only [part_len] at HL
  clear k1 k2 hto
  obtain ⟨va, vc, x0, x1, x2⟩ := mv_cells H
  have H0 : Hid _ := H
  clear H hob
  have HV : Hid (∀ x ∈ V, Is32 x) := hvo
  have HTT : Hid _ := hTT
  have HF : Hid _ := hfin
  have HR : Hid _ := hrf
  clear hvo hTT hT hfin hrf hok hha hK hV
  go_enter Try.func31, Try.ntmps31
  go_wp2_with fail
  refine HK.mono ?_
  rintro e w' ⟨rfl, rfl⟩
  go_wp2_with fail
  refine HL.mono ?_
  rintro e w' ⟨rfl, rfl⟩
  clear HK HL
  go_wp2_with fail
  clear x0 x1 x2
  go_loopw [21] (fun i wr => ∃ (j : Nat) (post' : List Nat) (M1 : Nat → Prop), i = .int .i64 j ∧ j ≤ V.length ∧ Hid (scanN (f K) os V (pre ++ a :: post) j = pre ++ a :: post') ∧ Hid (Mv B wr p n os pm M1 q (P1 ++ partO f os fin a j :: post'.map (obAt os)) (pre ++ a :: post')) ∧ Hid (Off M w wr) ∧ Hid (∀ k, M1 k → M k ∨ w.heap.size ≤ k)) (fun i _ => V.length - (intOf i).toNat)
  case atStart => exact ⟨0, post, M, rfl, by omega, (show scanN (f K) os V (pre ++ a :: post) 0 = _ from rfl), H0, Off.refl _ _, (fun k e => .inl e)⟩
  case round =>
    clear H0
    obtain ⟨j, post1, M1, rfl, hj, HS, HH, HO, HM⟩ := hrel
    by_cases hlj : j < V.length
    · have HJ : Hid (j < V.length) := hlj
      have d1 : decide ((j : Int) < (V.length : Int)) = true := by simp; omega
      have d2 : decide (j < V.length) = true := by simp; omega
      have HSY := HR.out K j wr
      cases hf : f K j
      · rw [hf] at HSY
        have hn : scanN (f K) os V (pre ++ a :: post) (j + 1) = pre ++ a :: post1 := by
          rw [scanN, hf]
          exact HS.out
        have HN : Hid _ := hn
        have hp : partO f os fin a (j + 1) = partO f os fin a j := by
          rw [HPO.out, HPO.out, part_no _ _ _ _ _ hf]
        have HP := HH.out
        rw [← hp] at HP
        have HP : Hid _ := HP
        clear hn hp hlj hf
        go_wp2_with fail
        refine HSY.mono ?_
        rintro e w' ⟨rfl, hw⟩
        have hw := hw.symm
        subst hw
        go_wp2_with fail
        go_roundw
        case rel =>
          first
          | exact ⟨j + 1, post1, M1, by go_num, HJ.out, HN, HP, HO, HM⟩
          | ((repeat apply Exists.intro); exact ⟨⟨j + 1, post1, M1, by go_num, HJ.out, HN, HP, HO, HM⟩, rfl⟩)
        case measure => have := HJ.out; simp [intOf]; omega
      · rw [hf] at HSY
        generalize hXX : V.getD j 0 = X at *
        have hXm : Is32 X := by
          rw [← hXX, List.getD, List.getElem?_eq_getElem hlj]
          exact HV.out _ (List.getElem_mem hlj)
        have hX1 : -2147483648 ≤ X := hXm.1
        have hX2 : X ≤ 2147483647 := hXm.2
        have hn : scanN (f K) os V (pre ++ a :: post) (j + 1) = addRef os (pre ++ a :: post1) (X - 1) := by
          rw [scanN, hf, HS.out, hXX]
          rfl
        have hdp := drop_post (add_prefix os (pre ++ a :: post1) (X - 1))
        have hdf : addRef os (pre ++ a :: post1) (X - 1) <+: fin := by
          rw [← hn]
          exact (scan_le (f K) os V _ (by omega)).trans HF.out
        have hgd := HH.out.good.add (X - 1)
        have hpf := place_fin hdf (fun h => add_mem h)
        have hpl := place_low hgd (fun h => add_mem (out := pre ++ a :: post1) h)
        have HMV := move_any B wr.drew p n os pm M1 q _ _ (X - 1) (HH.out.later ((Below.refl _ _).drew))
        have hGT : getO (P1 ++ partO f os fin a j :: post1.map (obAt os)) (T : Int) (j : Int) = X := by
          have := Heap.get_at P1 (partO f os fin a j) (post1.map (obAt os)) j (by rw [HPO.out, part_len]; exact hlj)
          rw [HTT.out] at this
          rw [this, HPO.out, part_get _ _ _ _ _ hlj, hXX]
        obtain ⟨S, hto, _⟩ := mv_to HH.out
        have HG := get_any _ _ _ _ _ _ (T : Int) (j : Int) hto
        rw [hGT] at HG
        clear hGT hto
        generalize hO1 : addRef os (pre ++ a :: post1) (X - 1) = O1 at *
        generalize hR1 : placeR os O1 (X - 1) = R at *
        generalize hD1 : O1.drop (pre ++ a :: post1).length = D at *
        have hT2 : partO f os fin a (j + 1) = ⟨K, (partV (f K) os fin V j).set j (R + 1)⟩ := by
          rw [HPO.out, part_yes _ _ _ _ _ hf hlj, hXX, refT, hpf]
        have HPT : Hid (∀ wm M2, Mv B wm p n os pm M2 q ((P1 ++ partO f os fin a j :: post1.map (obAt os)) ++ D.map (obAt os)) O1 → Calls Try.prog 25 #[.pointer (some ⟨q, 0, none⟩), .int .i64 (T : Int), .int .i64 (j : Int), .int .i32 (R + 1)] wm fun e w' => e = .returned (.bool true) ∧ Mv B w' p n os pm M2 q (P1 ++ partO f os fin a (j + 1) :: (post1 ++ D).map (obAt os)) O1 ∧ Off M2 wm w') := fun wm M2 h => by
          rw [List.append_assoc, List.cons_append, ← List.map_append] at h
          have := mv_put h T j (R + 1) HTT.out (by rw [HPO.out, part_len]; exact hlj) ⟨by omega, by omega⟩
          rw [HPO.out j] at this
          rw [hT2]
          exact this
        have e1 : IntKind.i64.wrap (R + 1) = R + 1 := by rw [IntKind.wrap_i64]; omega
        have e2 : IntKind.i32.wrap (R + 1) = R + 1 := by rw [IntKind.wrap_i32]; omega
        have e3 : wrap32 (R + 1) = R + 1 := by unfold wrap32; omega
        have HN : Hid (scanN (f K) os V (pre ++ a :: post) (j + 1) = pre ++ a :: (post1 ++ D)) := hn.trans hdp
        have HD : Hid (O1 = pre ++ a :: (post1 ++ D)) := hdp
        have HMV : Hid (Calls Try.prog 30 #[.pointer (some ⟨pm, 0, none⟩), .int .i64 (X - 1)] wr.drew fun e w' => e = .returned (.int .i64 R) ∧ ∃ M', Mv B w' p n os pm M' q ((P1 ++ partO f os fin a j :: post1.map (obAt os)) ++ D.map (obAt os)) O1 ∧ Off M1 wr.drew w' ∧ ∀ k, M' k → M1 k ∨ wr.drew.heap.size ≤ k) := HMV
        obtain ⟨va, vc, x0, x1, x2⟩ := mv_cells HH.out
        have HB9 : Hid _ := hpl
        clear hn hdp hdf hgd hpf hpl hO1 hR1 hD1 hT2 hXX hXm hlj hf
        go_wp2_with fail
        refine HSY.mono ?_
        rintro e w' ⟨rfl, hw⟩
        have hw := hw.symm
        subst hw
        go_wp2_with fail
        refine HG.mono ?_
        rintro e w' ⟨rfl, rfl⟩
        go_upto_region 6 with fail
        go_region_with (first | (go_at_call 30; refine HMV.out.mono ?_; rintro e wm ⟨rfl, M2, hM2, o2, l2⟩; obtain ⟨ya, yc, y0, y1, y2⟩ := mv_cells hM2) | (go_at_call 25; refine (HPT.out _ _ hM2).mono ?_; rintro e w9 ⟨rfl, hM9, o9⟩))
        all_goals
          have H9 : Hid (Mv B w9 p n os pm M2 q (P1 ++ partO f os fin a (j + 1) :: (post1 ++ D).map (obAt os)) (pre ++ a :: (post1 ++ D))) := by
            have := HD.out
            subst this
            exact hM9
          have kd : Below wr.heap.size wr wr.drew := (Below.refl _ _).drew
          have O9 : Hid (Off M w w9) := (HO.out.trans (Off.below M kd) (fun k e => .inl e)).trans (o2.trans o9 l2) HM.out
          have L9 : Hid (∀ k, M2 k → M k ∨ w.heap.size ≤ k) := fun k e => by
            rcases l2 k e with h | h
            · exact HM.out k h
            · right; have := HO.out.size; have := kd.size; omega
          clear hM9 hM2 o2 l2 o9 kd
          go_wp2_with fail
          go_roundw
          case rel =>
            first
            | exact ⟨j + 1, post1 ++ D, M2, by go_num, HJ.out, HN, H9, O9, L9⟩
            | ((repeat apply Exists.intro); exact ⟨⟨j + 1, post1 ++ D, M2, by go_num, HJ.out, HN, H9, O9, L9⟩, rfl⟩)
          case measure => have := HJ.out; simp [intOf]; omega
    · have ej : j = V.length := by omega
      subst ej
      have d1 : decide ((V.length : Int) < (V.length : Int)) = false := by simp
      have d2 : decide (V.length < V.length) = false := by simp
      go_wp2_with fail
      go_returns
      have h := HH.out
      refine ⟨rfl, M1, post1, HS.out, ?_, HO.out, HM.out⟩
      rw [List.append_assoc]
      exact h
end Coll
end Go.Proofs.Ytogohjnpgdiddaa
