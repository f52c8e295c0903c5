/- The laws' own Good and eq. -/
import Derived.Test.YtjlobkohkfcbpaaFrCopy
namespace Go.Proofs.Ytjlobkohkfcbpaa
namespace Fr
open Mem
open Go.RowKit
set_option linter.unusedVariables false
set_option linter.unusedSimpArgs false
set_option maxRecDepth 100000

/-- Are all references places, or null? -/
def goodV (l : List Vl) : Bool := l.all fun v => !(v.r && decide (v.n < 0))
/-- A slice of values, opened at element i. -/
theorem vs_at {w : World} {a : Option Addr} {n c : Nat} {l : List Vl} (h : Vs w (.slice a n c) l) (i : Nat) (hi : i < l.length) : ∃ b off, a = some ⟨b, off, none⟩ ∧ w.cell? ⟨b, off + i * 2, none⟩ = some (.bool l[i].r) ∧ w.cell? ⟨b, off + i * 2 + 1, none⟩ = some (.int .i32 l[i].n) := by
  obtain ⟨a', c', e, _, _, _, hx⟩ := h
  simp only [Value.slice.injEq] at e
  obtain ⟨rfl, _, rfl⟩ := e
  obtain ⟨b, off, rfl, _, hx⟩ := hx (by omega)
  obtain ⟨h1, h2, _⟩ := hx i hi
  exact ⟨b, off, rfl, h1, h2⟩
theorem take_snoc' {α : Type} (l : List α) (k : Nat) (hk : k < l.length) : l.take (k + 1) = l.take k ++ [l[k]] := by
  rw [List.take_add_one, List.getElem?_eq_getElem hk]
  rfl
set_option maxHeartbeats 4000000 in
theorem good_any (a : Option Addr) (n c : Nat) (l : List Vl) (w : World) (h : Vs w (.slice a n c) l) : Calls Try.prog 7 #[.slice a n c] w fun e w' => e = .returned (.bool (goodV l)) ∧ w = w' := by
  obtain ⟨hlen, hc1, hc2, hnil⟩ := vs_len h
  have HV : Hid (Vs w (.slice a n c) l) := h
  unfold maxLen at hc2
  clear h hnil
  have HLEN : Hid _ := hlen
  have HG : Hid (goodV l = l.all fun v => !(v.r && decide (v.n < 0))) := rfl
  clear hlen
  generalize goodV l = G at *
  go_enter Try.func7, Try.ntmps7
  go_upto_region 2 with fail
  go_loopw [3] (fun i wr => ∃ (t : Nat), i = .int .i64 t ∧ t ≤ n ∧ Hid ((l.take t).all (fun v => !(v.r && decide (v.n < 0))) = true) ∧ wr = w) (fun i _ => n - (intOf i).toNat)
  case atStart => exact ⟨0, rfl, by omega, by show _ = _; simp, rfl⟩
  case round =>
    obtain ⟨t, rfl, ht, HT, hw⟩ := hrel
    have hw := hw.symm
    subst hw
    by_cases htl : t < n
    · have htl' : t < l.length := by rw [HLEN.out]; exact htl
      obtain ⟨b, off, rfl, z1, z2⟩ := vs_at HV.out t htl'
      have HSN : Hid ((l.take (t + 1)).all (fun v => !(v.r && decide (v.n < 0))) = ((l.take t).all (fun v => !(v.r && decide (v.n < 0))) && !(l[t].r && decide (l[t].n < 0)))) := by
        show _ = _
        rw [take_snoc' l t htl', List.all_append]
        simp
      have HANY : Hid (!(l[t].r && decide (l[t].n < 0)) = false → G = false) := fun h => by
        rw [HG.out]
        exact List.all_eq_false.2 ⟨_, List.getElem_mem htl', by simpa using h⟩
      have d3 : decide ((t : Int) < (n : Int)) = true := by simp; omega
      have d4 : decide (t < n) = true := by simp; omega
      generalize l[t] = x at *
      obtain ⟨xr, xn⟩ := x
      dsimp only at z1 z2 HSN HANY
      clear HV HG htl' HLEN
      cases xr
      · have HT2 : Hid ((l.take (t + 1)).all (fun v => !(v.r && decide (v.n < 0))) = true) := by
          show _ = _
          rw [HSN.out, HT.out]
          rfl
        clear HSN HT HANY
        go_wp2_with fail
        go_roundw
        case rel => exact ⟨t + 1, by go_num, by omega, HT2, by first | trivial | rfl⟩
        case measure => simp [intOf]; omega
      · cases hd : decide (xn < 0)
        · have HT2 : Hid ((l.take (t + 1)).all (fun v => !(v.r && decide (v.n < 0))) = true) := by
            show _ = _
            rw [HSN.out, HT.out, hd]
            rfl
          clear HSN HT HANY
          go_wp2_with fail
          go_roundw
          case rel => exact ⟨t + 1, by go_num, by omega, HT2, by first | trivial | rfl⟩
          case measure => simp [intOf]; omega
        · have hG : Hid (G = false) := HANY.out (by rw [hd]; rfl)
          clear HSN HT HANY
          go_wp2_with fail
          go_ret
          exact ⟨ret_b hG.out.symm, rfl⟩
    · have e := HT.out
      rw [List.take_of_length_le (by rw [HLEN.out]; omega), ← HG.out] at e
      have HE : Hid (G = true) := e
      have d3 : decide ((t : Int) < (n : Int)) = false := by simp; omega
      have d4 : decide (t < n) = false := by simp; omega
      clear e HT
      go_wp2_with fail
      go_ret
      exact ⟨ret_b HE.out.symm, rfl⟩
/-- eq of one and the same values. -/
theorem eq_same (a a' : Option Addr) (n c c' : Nat) (l : List Vl) (w : World) (h : Vs w (.slice a n c) l) (h' : Vs w (.slice a' n c') l) : Calls Try.prog 11 #[.slice a n c, .slice a' n c'] w fun e w' => e = .returned (.bool true) ∧ ∃ k, w' = w.drewN k := by
  obtain ⟨hlen, hc1, hc2, hnil⟩ := vs_len h
  have HV : Hid (Vs w (.slice a n c) l) := h
  have HV' : Hid (Vs w (.slice a' n c') l) := h'
  unfold maxLen at hc2
  clear h hnil h'
  have HLEN : Hid _ := hlen
  clear hlen
  go_enter Try.func11, Try.ntmps11
  go_upto_region 4 with fail
  go_loopw [5] (fun i wr => ∃ (t : Nat), i = .int .i64 t ∧ t ≤ n ∧ Hid (∃ k, wr = w.drewN k)) (fun i _ => n - (intOf i).toNat)
  case atStart => exact ⟨0, rfl, by omega, ⟨0, rfl⟩⟩
  case round =>
    obtain ⟨t, rfl, ht, HT⟩ := hrel
    by_cases htl : t < n
    · have htl' : t < l.length := by rw [HLEN.out]; exact htl
      obtain ⟨b, off, rfl, z1, z2⟩ := vs_at HV.out t htl'
      obtain ⟨b', off', rfl, z3, z4⟩ := vs_at HV'.out t htl'
      have hkd : Below w.heap.size w wr := by obtain ⟨k, rfl⟩ := HT.out; exact below_draws _ _ _
      have y1 := cellOn z1 hkd
      have y2 := cellOn z2 hkd
      have y3 := cellOn z3 hkd
      have y4 := cellOn z4 hkd
      have d3 : decide ((t : Int) < (n : Int)) = true := by simp; omega
      have d4 : decide (t < n) = true := by simp; omega
      generalize l[t] = x at *
      obtain ⟨xr, xn⟩ := x
      dsimp only at y1 y2 y3 y4
      clear HV HV' htl' HLEN z1 z2 z3 z4 hkd
      have d5 : decide (xn = xn) = true := by simp
      go_upto_region 6 with fail
      cases xr
      all_goals
        go_quiet (fail)
        all_goals
          have HT2 : Hid (∃ k, wr.drewN nq = w.drewN k) := by
            obtain ⟨k, rfl⟩ := HT.out
            exact ⟨k + nq, by first | rfl | simp [World.drewN, Nat.add_assoc]⟩
          go_wp2_with fail
          go_roundw
          case rel => exact ⟨t + 1, by go_num, by omega, HT2⟩
          case measure => simp [intOf]; omega
    · have d3 : decide ((t : Int) < (n : Int)) = false := by simp; omega
      have d4 : decide (t < n) = false := by simp; omega
      go_wp2_with fail
      go_ret
      exact ⟨rfl, HT.out⟩
end Fr
end Go.Proofs.Ytjlobkohkfcbpaa
