/- The laws' own refs: references are told as they stand. -/
import Derived.Test.YtjlobkohkfcbpaaFrRefs
import Derived.Test.YtjlobkohkfcbpaaFrLaw
import Derived.Deep.QuietTactic
namespace Go.Proofs.Ytjlobkohkfcbpaa
namespace Fr
open Mem
open Go.RowKit
set_option linter.unusedVariables false
set_option linter.unusedSimpArgs false
set_option maxRecDepth 100000

/-- append of whatever values onto nil or an own row, as the walk meets it: one law for none and for some. -/
theorem wpList_append_vs {w : World} {ops : Array Oper} {rest : List Oper} {o : Oper} {a : Act} {Q : Exit → Act → World → Prop} (hgd : o.guard = none) (s x : Operand)
    (ho : o.op = .call { callee := .builtin .append, args := #[s, x], argTypes := #[22, 22] }) (base : Nat) (v : Value) (n : Nat) (l : List Vl) (hs : a.eval s = v) (hown : w.ownsRow base 31 2 v n (cellsV l))
    (ad : Option Addr) (m c : Nat) (l' : List Vl) (hx : a.eval x = .slice ad m c) (hv : Vs w (.slice ad m c) l') (hbig : n + m ≤ 1000000) (hbase : base ≤ w.heap.size)
    (h : ∀ v' w', Hid (w'.ownsRow base 31 2 v' (n + m) (cellsV (l ++ l'))) → Hid (w.grownBy w' v.ownBlock) → wpList Try.prog ops Q rest (a.put o.dst v') w') : wpList Try.prog ops Q (o :: rest) a w := by
  obtain ⟨i0, hi, hz0, hz1, hz2⟩ := info_parts infoV
  obtain ⟨hlen, hc1, hc2, hnil⟩ := vs_len hv
  cases ad with
  | none =>
    have hc0 := hnil rfl
    obtain rfl : m = 0 := by omega
    obtain rfl : c = 0 := hc0
    obtain rfl : l' = [] := List.eq_nil_of_length_eq_zero hlen
    refine wpList_append_own_none hgd s x _ ho base 31 i0 2 Try.underlying22 hi v n _ hs hown hx ?_
    exact h v w (by rw [List.append_nil, Nat.add_zero]; exact hown) (World.grownBy.refl _ _)
  | some ad =>
    refine wpList_append_own w hgd s x _ ho base 31 i0 (.agg #[.bool false, .int .i32 0]) 2 8 Try.underlying22 hi hz0 hz1 hz2 rfl (by decide) v n _ hs hown ad m c (cellsV l') hx (by rw [cellsV_len, hlen, Nat.mul_comm]) (vs_news hv ad rfl) (cellsV_one l') (by unfold maxLen; omega) (by omega) hbase ?_
    intro v' w' h2 h3 _
    rw [← cellsV_append] at h2
    exact h v' w' h2 h3
theorem refs_snoc (L : List Vl) (t : Nat) (ht : t < L.length) : refsOf (L.take (t + 1)) = refsOf (L.take t) ++ (if L[t].r then [L[t].n - 1] else []) := by
  rw [take_snoc' L t ht, refs_append]
  congr 1
  rw [refs_cons]
  rfl
theorem refs_pre (L : List Vl) (t : Nat) : refsOf L = refsOf (L.take t) ++ refsOf (L.drop t) := by rw [← refs_append, List.take_append_drop]
set_option maxHeartbeats 8000000 in
theorem lrefs_true {B : Nat} {w : World} {p : Nat} {m pc : Int} {ls st : List Vl} {r : Nat} (H : Fr B w p m pc ls r st) (a1 a2 : Option Addr) (n1 c1 n2 c2 : Nat) (l1 l2 : List Vl) (h1 : Vs w (.slice a1 n1 c1) l1) (h2 : Vs w (.slice a2 n2 c2) l2)
    (hs1 : n1 ≤ 1000) (hs2 : n2 ≤ 1000) (he : refsOf (l1 ++ l2) = refsOf (ls ++ st)) : Calls Try.prog 19 #[.pointer (some ⟨p, 0, none⟩), .slice a1 n1 c1, .slice a2 n2 c2] w fun e w' => e = .returned (.bool true) ∧ Below w.heap.size w w' := by
  have HH : Hid (Fr _ _ _ _ _ _ _ _) := H
  have HE : Hid _ := he
  have HV1 : Hid (Vs w (.slice a1 n1 c1) l1) := h1
  have HV2 : Hid (Vs w (.slice a2 n2 c2) l2) := h2
  have h321 := vs_32 h1
  have h322 := vs_32 h2
  have e1 := (vs_len h1).1
  have e2 := (vs_len h2).1
  have H32 : Hid (∀ x ∈ l1 ++ l2, Is32 x.n) := fun x hx => (List.mem_append.1 hx).elim (h321 x) (h322 x)
  have HLL : Hid ((l1 ++ l2).length = 0 + n1 + n2) := by show _ = _; rw [List.length_append, e1, e2, Nat.zero_add]
  clear H he h1 h2 h321 h322 e1 e2
  have HO : Hid (w.ownsRow w.heap.size 31 2 (.slice none 0 0) 0 (cellsV [])) := World.ownsRow_nil _ _ _ _
  go_enter Try.func19, Try.ntmps19
  go_upto_region 1 with fail
  go_wp2_with (at_builtin; first | (refine wpList_append_vs rfl (.const (.slice none 0 0)) (.tmp 11) rfl w.heap.size (.slice none 0 0) 0 [] rfl HO.out a1 n1 c1 l1 rfl HV1.out (by omega) (Nat.le_refl _) ?_; intro v1 w1 HO1 HG1) | (refine wpList_append_vs rfl (.tmp 12) (.tmp 13) rfl w.heap.size v1 (0 + n1) l1 rfl HO1.out a2 n2 c2 l2 rfl (HV2.out.later valE_stable ((Below.refl w.heap.size w).grown HG1.out (Nat.le_refl _) (fun k e => by cases e))) (by omega) (by have := HG1.out.size; omega) ?_; intro v2 w2 HO2 HG2))
  have k1 := (Below.refl w.heap.size w).grown HG1.out (Nat.le_refl _) (fun k e => by cases e)
  have k2 := k1.grown HG2.out k1.size (fun k e => (World.ownsRow.lt HO1.out k e).1)
  have HF2 : Hid (Fr _ _ _ _ _ _ _ _) := HH.out.later k2
  have HO3 : Hid (w2.ownsRow w.heap.size 31 2 v2 (0 + n1 + n2) (cellsV (l1 ++ l2))) := HO2.out
  have hn : 0 + n1 + n2 ≤ 2000 := by omega
  clear HV1 HV2 HO HO1 HG1 HO2 HG2 HH
  generalize l1 ++ l2 = L at *
  obtain ⟨va, vc, rfl⟩ := own_sl HO3.out
  generalize 0 + n1 + n2 = N at *
  have C3 := refs_any HF2.out
  rw [← HE.out] at C3
  go_wp2_with fail
  refine C3.mono ?_
  rintro e w3 ⟨v3, rfl, own3, k3⟩
  clear C3
  obtain ⟨ra, rc, rfl⟩ := own_sl own3
  have HR : Hid (w3.ownsRow w2.heap.size 3 1 (.slice ra (refsOf L).length rc) (refsOf L).length ((refsOf L).map (Value.int .i64))) := own3
  have HV : Hid (Vs w3 (.slice va N vc) L) := (own_vs (own_later HO3.out k3) H32.out).1
  have K3 := k2.trans (k3.mono k2.size)
  have hRL : (refsOf L).length ≤ L.length := refs_len L
  clear own3 HO3 k2 k3 HF2 HE
  go_upto_region 5 with fail
  go_loopw [9, 10] (fun kv i wr => ∃ (t : Nat), i = .int .i64 t ∧ t ≤ N ∧ kv = .int .i64 ((refsOf (L.take t)).length : Int) ∧ Hid (∃ k, wr = w3.drewN k)) (fun _ i _ => N - (intOf i).toNat)
  case atStart => exact ⟨0, rfl, by omega, rfl, ⟨0, rfl⟩⟩
  case round =>
    obtain ⟨t, rfl, ht, rfl, HT⟩ := hrel
    have hkd : Below w3.heap.size w3 wr := by obtain ⟨k, rfl⟩ := HT.out; exact below_draws _ _ _
    by_cases htl : t < N
    · have htl' : t < L.length := by rw [HLL.out]; exact htl
      obtain ⟨b, off, rfl, z1, z2⟩ := vs_at HV.out t htl'
      have y1 := cellOn z1 hkd
      have y2 := cellOn z2 hkd
      have HSN := refs_snoc L t htl'
      have HPRE := refs_pre L (t + 1)
      have h32 := H32.out _ (List.getElem_mem htl')
      have d3 : decide ((t : Int) < (N : Int)) = true := by simp; omega
      have d4 : decide (t < N) = true := by simp; omega
      generalize L[t] = x at *
      obtain ⟨xr, xn⟩ := x
      dsimp only at y1 y2 HSN h32
      cases xr
      · have HK : Hid ((refsOf (L.take t)).length = (refsOf (L.take (t + 1))).length) := by
          show _ = _
          rw [HSN]
          simp
        clear HSN HPRE z1 z2 htl' hRL
        go_wp2_with fail
        go_roundw
        case rel => exact ⟨t + 1, by go_num, by omega, by rw [HK.out], HT⟩
        case measure => simp [intOf]; omega
      · have HK : Hid ((refsOf (L.take (t + 1))).length = (refsOf (L.take t)).length + 1) := by
          show _ = _
          rw [HSN]
          simp
        have hkR : (refsOf (L.take t)).length < (refsOf L).length := by
          rw [HPRE, List.length_append, HK.out]
          omega
        have hRK : (refsOf L)[(refsOf (L.take t)).length]? = some (xn - 1) := by
          rw [HPRE, HSN]
          simp
        have hL2 : L.length = N := HLL.out
        obtain ⟨g, cap, e, _, _, hc1, hc2⟩ := own_some HR.out (by omega)
        simp only [Value.slice.injEq, true_and] at e
        obtain ⟨rfl, rfl⟩ := e
        have z3 := own_cell HR.out _ (.int .i64 (xn - 1)) (by rw [List.getElem?_map, hRK]; rfl)
        have y3 := cellOn z3 hkd
        have hb1 : -2147483648 ≤ xn := h32.1
        have hb2 : xn ≤ 2147483647 := h32.2
        have e1 : IntKind.i64.wrap (xn - 1) = xn - 1 := by rw [IntKind.wrap_i64]; omega
        have e2 : IntKind.i64.wrap xn = xn := by rw [IntKind.wrap_i64]; omega
        clear HSN HPRE z1 z2 z3 htl' hRK h32
        generalize hKK : (refsOf (L.take t)).length = K at *
        have e3 : IntKind.i64.wrap ((K : Int) + 1) = (K : Int) + 1 := by rw [IntKind.wrap_i64]; omega
        clear hKK
        generalize (refsOf L).length = R at *
        have d5 : decide ((R : Int) ≤ (K : Int)) = false := by simp; omega
        have d6 : decide (R ≤ K) = false := by simp; omega
        have d7 : decide ((K : Int) < (R : Int)) = true := by simp; omega
        have d8 : decide (K < R) = true := by simp; omega
        go_upto_region 8 with fail
        go_quiet (fail)
        all_goals
          have HT2 : Hid (∃ k, wr.drewN nq = w3.drewN k) := by
            obtain ⟨k, rfl⟩ := HT.out
            exact ⟨k + nq, by first | rfl | simp [World.drewN, Nat.add_assoc]⟩
          go_wp2_with fail
          go_roundw
          case rel => exact ⟨t + 1, by go_num, by omega, by rw [HK.out]; go_num, HT2⟩
          case measure => simp [intOf]; omega
    · obtain rfl : t = N := by omega
      have d3 : decide ((t : Int) < (t : Int)) = false := by simp
      have d4 : decide (t < t) = false := by simp
      have HK : Hid ((refsOf (L.take t)).length = (refsOf L).length) := by show _ = _; rw [List.take_of_length_le (by rw [HLL.out]; exact Nat.le_refl _)]
      rw [HK.out]
      have d5 : decide (((refsOf L).length : Int) = ((refsOf L).length : Int)) = true := by simp
      clear hRL
      generalize (refsOf L).length = R at *
      go_wp2_with fail
      go_ret
      exact ⟨rfl, K3.trans (hkd.mono K3.size)⟩
end Fr
end Go.Proofs.Ytjlobkohkfcbpaa
