/- frame's Push: what speaks of the program. -/
import Derived.Test.YtjlobkohkfcbpaaFrCopy
namespace Go.Proofs.Ytjlobkohkfcbpaa
namespace Fr
open Mem
open Go.RowKit
set_option linter.unusedVariables false
set_option linter.unusedSimpArgs false
set_option maxRecDepth 100000

theorem push_nil (v : Value) (w : World) : Calls Try.prog 9 #[.pointer none, v] w fun e w' => e = .returned (.bool false) ∧ ∃ k, w' = w.drewN k := by
  go_enter Try.func9, Try.ntmps9
  go_upto_region 1 with fail
  go_quiet (fail)
  all_goals
    go_wp2_with fail
    go_ret
    exact ⟨rfl, _, rfl⟩
/-- Is there room? -/
def fits (r d n : Nat) : Bool := decide (d + n ≤ r)
theorem push_no {B : Nat} {w : World} {p : Nat} {m pc : Int} {ls st : List Vl} {r : Nat} (a : Option Addr) (n c : Nat) (H : Fr B w p m pc ls r st) (hf : fits r st.length n = false) : Calls Try.prog 9 #[.pointer (some ⟨p, 0, none⟩), .slice a n c] w fun e w' => e = .returned (.bool false) ∧ ∃ k, w' = w.drewN k := by
  obtain ⟨⟨lx, sx, h1, h2, h3⟩, r1, r2, r3, r4, r5⟩ := H
  have x1 := (blk_cell h1 68).trans (toA (frC_68 m pc _ _ _ _ _ h2 h3))
  have x2 := (blk_cell h1 67).trans (toA (frC_67 m pc _ _ _ _ _ h2 h3))
  simp only [fits, decide_eq_false_iff_not] at hf
  clear h1 h2 h3 r1 r4 r5
  generalize st.length = D at *
  have d1 : decide ((r : Int) - (D : Int) < (n : Int)) = true := by simp; omega
  have e2 : IntKind.i64.wrap ((r : Int) - (D : Int)) = (r : Int) - (D : Int) := by rw [IntKind.wrap_i64]; omega
  clear hf
  go_enter Try.func9, Try.ntmps9
  go_upto_region 1 with fail
  go_quiet (fail)
  all_goals
    go_wp2_with fail
    go_ret
    exact ⟨rfl, _, rfl⟩
theorem push_cut {B : Nat} {w : World} {p : Nat} {m pc : Int} {ls st : List Vl} {r : Nat} (l : List Vl) (H : Fr B w p m pc ls r st) (h32 : ∀ x ∈ l, Is32 x.n) (hf : st.length + l.length ≤ r) :
    ∃ cur : List Value, w.heap[p]? = some (.cells cur.toArray 49 (0, 0)) ∧ cur.length = 69 ∧ w.cell? ⟨p, 68, none⟩ = some (.int .i64 (st.length : Int)) ∧ w.cell? ⟨p, 67, none⟩ = some (.int .i64 (r : Int)) ∧
      ∀ w2 : World, w2.heap[p]? = some (.cells (cur.take (35 + 2 * st.length) ++ cellsV l ++ cur.drop (35 + 2 * st.length + (cellsV l).length)).toArray 49 (0, 0)) →
        w2.cell? ⟨p, 68, none⟩ = some (.int .i64 (st.length : Int)) ∧ w2.frozen? ⟨p, 68, none⟩ = false ∧ Fr B (w2.setCell ⟨p, 68, none⟩ (.int .i64 ((st.length + l.length : Nat) : Int))) p m pc ls r (st ++ l) := by
  have hr := H.rm
  obtain ⟨⟨lx, sx, h1, h2, h3⟩, r1, r2, r3, r4, r5⟩ := H
  refine ⟨_, h1, frC_len _ _ _ _ _ _ _ h2 h3, (blk_cell h1 68).trans (toA (frC_68 m pc _ _ _ _ _ h2 h3)), (blk_cell h1 67).trans (toA (frC_67 m pc _ _ _ _ _ h2 h3)), fun w2 hg => ?_⟩
  rw [frC_copy _ _ _ _ _ _ _ h2 h3 l st.length (by omega)] at hg
  have e1 : (st ++ sx).take st.length ++ (l ++ (st ++ sx).drop (st.length + l.length)) = st ++ l ++ sx.drop l.length := by
    rw [List.take_left, List.drop_append, List.drop_eq_nil_of_le (by omega), Nat.add_sub_cancel_left]
    simp
  have e2 : (st ++ l ++ sx.drop l.length).length = 16 := by
    simp only [List.length_append, List.length_drop] at h3 ⊢
    omega
  rw [e1] at hg
  refine ⟨(blk_cell hg 68).trans (toA (frC_68 m pc _ _ _ _ _ h2 e2)), blk_free hg 68, ?_⟩
  have HS := blk_set hg 68 (.int .i64 ((st.length + l.length : Nat) : Int))
  rw [setA, frC_set68 m pc _ _ _ _ _ h2 e2] at HS
  refine ⟨⟨lx, sx.drop l.length, by rw [List.length_append]; exact HS, h2, e2⟩, r1, r2, by rw [List.length_append]; exact hf, r4, fun x hx => ?_⟩
  rcases List.mem_append.1 hx with hx | hx
  · exact r5 x hx
  · exact h32 x hx
set_option maxHeartbeats 8000000 in
theorem push_any {B : Nat} {w : World} {p : Nat} {m pc : Int} {ls st : List Vl} {r : Nat} (a : Option Addr) (n c : Nat) (l : List Vl) (H : Fr B w p m pc ls r st) (hv : Vs w (.slice a n c) l) (hf : fits r st.length n = true) : Calls Try.prog 9 #[.pointer (some ⟨p, 0, none⟩), .slice a n c] w fun e w' => e = .returned (.bool true) ∧ Fr B w' p m pc ls r (st ++ l) ∧ Off (At p) w w' := by
  obtain ⟨hlen, hc1, hc2, hnil⟩ := vs_len hv
  have h32 := vs_32 hv
  have hr := H.rm
  simp only [fits, decide_eq_true_eq] at hf
  have HH : Hid (Fr _ _ _ _ _ _ _ _) := H
  have HV : Hid (Vs w (.slice a n c) l) := hv
  obtain ⟨cur, _, _, x1, x2, _⟩ := push_cut l H h32 (by omega)
  have hl2 : Hid ((cellsV l).length = n * 2) := by show _ = _; rw [cellsV_len]; omega
  have HP : Hid (∀ x ∈ l, Is32 x.n) := h32
  have HL : Hid (l.length = n) := hlen
  clear H hv h32 hlen hc1 hc2
  obtain ⟨D, hD⟩ : ∃ D, D = st.length := ⟨_, rfl⟩
  rw [← hD] at x1 hf
  have HD : Hid (D = st.length) := hD
  have ha0 : Hid (0 < n → ∃ ad, a = some ad) := fun h0 => by
    cases a with
    | none => have := hnil rfl; have := (vs_len HV.out).2.1; omega
    | some ad => exact ⟨ad, rfl⟩
  clear hnil hD
  have d1 : decide ((r : Int) - (D : Int) < (n : Int)) = false := by simp; omega
  have e2 : IntKind.i64.wrap ((r : Int) - (D : Int)) = (r : Int) - (D : Int) := by rw [IntKind.wrap_i64]; omega
  have e3 : IntKind.i64.wrap ((D : Int) + (n : Int)) = (D : Int) + (n : Int) := by rw [IntKind.wrap_i64]; omega
  obtain ⟨ad, had, hsl⟩ := slice_l p D (by omega)
  go_enter Try.func9, Try.ntmps9
  go_upto_region 1 with fail
  go_quiet (fail)
  go_upto_region 3 with fail
  have H1 := HH.out.later (below_draws w.heap.size w nq)
  have V1 := HV.out.later valE_stable (below_draws w.heap.size w nq)
  have ODR : Hid (Off (At p) w (w.drewN nq)) := Off.below _ (below_draws w.heap.size w nq)
  clear x1 x2
  generalize w.drewN nq = W at *
  obtain ⟨cur, hb, hcl, y1, y2, hnext⟩ := push_cut l H1 HP.out (by rw [← HD.out, HL.out]; exact hf)
  rw [← HD.out, HL.out] at hnext
  rw [← HD.out] at y1
  have HB : Hid (W.drew.heap[p]? = some (.cells cur.toArray 49 (0, 0))) := hb
  have HX : Hid _ := hnext
  have HPOS : Hid (0 < n → some ad = some (⟨p, 35 + 2 * D, none⟩ : Addr) ∧ ∃ x, a = some x ∧ ∀ j v, (cellsV l)[j]? = some v → W.drew.cell? (x.add j) = some v) := fun h0 => ⟨by rw [had (by omega)], (ha0.out h0).imp fun x e => ⟨e, vs_news (V1.later valE_stable ((Below.refl _ _).drew)) x e⟩⟩
  have HFIT : Hid (35 + 2 * D + (cellsV l).length ≤ cur.length) := by show _ ≤ _; rw [hcl, hl2.out]; omega
  have hmin : Nat.min n (16 - D) = n := Nat.min_eq_left (by omega)
  clear hb hnext H1 V1 hcl
  go_region_law (refine step_copy2 rfl (.tmp 32) (.tmp 33) 22 22 rfl 31 2 Try.underlying22 sizeV (some ad) a (16 - D) (16 - D) n c (by simp [Act.eval, Act.put]) (by simp [Act.eval, Act.put]) n hmin p (35 + 2 * D) cur _ HB.out (cellsV l) hl2.out HPOS.out HFIT.out (cellsV_one l) ?_; intro w2 HG HO; obtain ⟨z1, z2, HF0⟩ := HX.out w2 HG.out; have HF : Hid (Fr _ _ _ _ _ _ _ _) := HF0; clear HF0; have OO : Hid (Off (At p) _ _) := HO; clear HO HG)
  all_goals
    go_wp2_with fail
    go_ret
    have e := HF.out
    rw [Int.natCast_add] at e
    refine ⟨rfl, ?_, ?_⟩
    · first | exact e | exact e.drew
    · have o1 := (ODR.out.drew).trans OO.out (fun k e => .inl e)
      have o2 := o1.trans (Off.set (S := At p) w2 ⟨p, 68, none⟩ (.int .i64 ((D : Int) + (n : Int))) rfl) (fun k e => .inl e)
      first | exact o2 | exact o2.drew
end Fr
end Go.Proofs.Ytjlobkohkfcbpaa
