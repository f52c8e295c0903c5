/- The contract of the document's own bytes of an instruction: PutIns. -/
import Derived.Test.YtegamajcipgkhaaOpIns
import Derived.Test.YtegamajcipgkhaaLibOwn
import Derived.Test.YtegamajcipgkhaaLibMore
namespace Go.Proofs.Ytegamajcipgkhaa
namespace Op4
open Num Kind
open Go.RowKit
set_option linter.unusedVariables false

/-- An instruction's bytes. -/
def putI (o a : Int) (c m : ByteArray) : List Int :=
  enc o ++ ((if (partsF o).1 then enc a else []) ++ ((if 0 < (partsF o).2.1 then encT c else []) ++ (if (partsF o).2.2 then encT m else [])))

theorem encT_small (c : ByteArray) (h : c.size ≤ 100) : 1 ≤ (encT c).length ∧ (encT c).length ≤ 110 := by
  have := encT_length c
  have := enc_len c.size
  omega

set_option maxRecDepth 100000 in
set_option maxHeartbeats 2000000 in
theorem put_ins (o a : Int) (c m : ByteArray) (w : World) (ho : Is64 o) (ha : Is64 a) (hc : c.size ≤ 100) (hm : m.size ≤ 100) :
    Calls Try.prog 16 #[insV o a c m] w fun e w' => ∃ g cap n, n = (putI o a c m).length ∧ e = .returned (.slice (some ⟨g, 0, none⟩) n cap) ∧
      w'.ownsRow w.heap.size 5 1 (.slice (some ⟨g, 0, none⟩) n cap) n (cellsOf (putI o a c m)) ∧ Below w.heap.size w w' := by
  obtain ⟨i0, hi, hz0, hz1, hz2⟩ := info_parts info8
  unfold insV
  have lo := enc_len o
  have la := enc_len a
  have lc := encT_small c hc
  have lm := encT_small m hm
  have b0 : Below w.heap.size w (w.alloc (.cells #[.int .i64 o, .int .i64 a, .string c, .string m] 23)) := (Below.refl _ _).alloc (Nat.le_refl _) _
  have c0 : (w.alloc (.cells #[.int .i64 o, .int .i64 a, .string c, .string m] 23)).cell? ⟨w.heap.size, 0, none⟩ = some (.int .i64 o) := cell_new _ _ _ 0
  have c1 : (w.alloc (.cells #[.int .i64 o, .int .i64 a, .string c, .string m] 23)).cell? ⟨w.heap.size, 1, none⟩ = some (.int .i64 a) := cell_new _ _ _ 1
  have c2 : (w.alloc (.cells #[.int .i64 o, .int .i64 a, .string c, .string m] 23)).cell? ⟨w.heap.size, 2, none⟩ = some (.string c) := cell_new _ _ _ 2
  have c3 : (w.alloc (.cells #[.int .i64 o, .int .i64 a, .string c, .string m] 23)).cell? ⟨w.heap.size, 3, none⟩ = some (.string m) := cell_new _ _ _ 3
  rcases kinds o with ⟨hk, hp⟩ | ⟨hk, hp⟩ | ⟨hk, hp⟩ | ⟨hk, hp⟩ | ⟨hk, hp⟩
  · have hv : putI o a c m = enc o ++ enc a := by unfold putI; rw [hp]; simp
    have HP : Hid _ := hp
    rw [hv]
    clear hp hk hv
    go_enter Try.func16, Try.ntmps16
    go_wp2_with fail
    refine (ref_put o _ ho).mono ?_
    rintro e w1 ⟨g, cap, rfl, own1, b1⟩
    have d0 := cellOn c0 b1
    have d1 := cellOn c1 b1
    have d2 := cellOn c2 b1
    have d3 := cellOn c3 b1
    have e1 := b0.trans (b1.mono b0.size)
    have own1 := own_low own1 b0.size
    clear b0 b1 c0 c1 c2 c3
    go_wp2_with fail
    refine (parts_any o _).mono ?_
    rintro e w' ⟨rfl, rfl⟩
    rw [HP.out]
    simp only [resP]
    go_wp2_with fail
    refine (ref_put a _ ha).mono ?_
    rintro e w2 ⟨g2, cap2, rfl, own2, b2⟩
    have own1' := own_later own1 b2
    have h2 := Has.own own2
    have e2 := e1.trans (b2.mono e1.size)
    go_wp2_with (at_builtin; refine wpList_has _ rfl (.tmp 18) (.tmp 21) 24 rfl w.heap.size i0 Try.underlying24 hi hz0 hz1 hz2 _ _ (enc o) rfl own1' _ _ _ (enc a) rfl h2 (by omega) e2.size ?_; intro a3 c3 w3 own3 h3 g3)
    have e3 := e2.grown g3 e2.size (fun k e => (own1'.lt k e).1)
    obtain ⟨gg, cc, hf, _, _⟩ := own3.form (by omega)
    cases hf
    go_ret
    exact ⟨gg, _, _, by simp, rfl, own3, e3⟩
  · have hv : putI o a c m = enc o ++ encT c := by unfold putI; rw [hp]; simp
    have HP : Hid _ := hp
    rw [hv]
    clear hp hk hv
    go_enter Try.func16, Try.ntmps16
    go_wp2_with fail
    refine (ref_put o _ ho).mono ?_
    rintro e w1 ⟨g, cap, rfl, own1, b1⟩
    have d0 := cellOn c0 b1
    have d1 := cellOn c1 b1
    have d2 := cellOn c2 b1
    have d3 := cellOn c3 b1
    have e1 := b0.trans (b1.mono b0.size)
    have own1 := own_low own1 b0.size
    clear b0 b1 c0 c1 c2 c3
    go_wp2_with fail
    refine (parts_any o _).mono ?_
    rintro e w' ⟨rfl, rfl⟩
    rw [HP.out]
    simp only [resP]
    go_wp2_with fail
    refine (ref_text c _ (by omega)).mono ?_
    rintro e w2 ⟨g2, cap2, rfl, own2, b2⟩
    have own1' := own_later own1 b2
    have h2 := Has.own own2
    have e2 := e1.trans (b2.mono e1.size)
    go_wp2_with (at_builtin; refine wpList_has _ rfl (.tmp 25) (.tmp 28) 24 rfl w.heap.size i0 Try.underlying24 hi hz0 hz1 hz2 _ _ (enc o) rfl own1' _ _ _ (encT c) rfl h2 (by omega) e2.size ?_; intro a3 c3 w3 own3 h3 g3)
    have e3 := e2.grown g3 e2.size (fun k e => (own1'.lt k e).1)
    obtain ⟨gg, cc, hf, _, _⟩ := own3.form (by omega)
    cases hf
    go_ret
    exact ⟨gg, _, _, by simp, rfl, own3, e3⟩
  · have hv : putI o a c m = enc o ++ encT c ++ encT m := by unfold putI; rw [hp]; simp
    have HP : Hid _ := hp
    rw [hv]
    clear hp hk hv
    go_enter Try.func16, Try.ntmps16
    go_wp2_with fail
    refine (ref_put o _ ho).mono ?_
    rintro e w1 ⟨g, cap, rfl, own1, b1⟩
    have d0 := cellOn c0 b1
    have d2 := cellOn c2 b1
    have d3 := cellOn c3 b1
    have e1 := b0.trans (b1.mono b0.size)
    have own1 := own_low own1 (show w.heap.size + 1 ≤ _ by simp)
    have hlt : w.heap.size < w1.heap.size := by have := b1.size; simp at this; omega
    clear b0 b1 c0 c1 c2 c3
    go_wp2_with fail
    refine (parts_any o _).mono ?_
    rintro e w' ⟨rfl, rfl⟩
    rw [HP.out]
    simp only [resP]
    go_wp2_with fail
    refine (ref_text c _ (by omega)).mono ?_
    rintro e w2 ⟨g2, cap2, rfl, own2, b2⟩
    have own1' := own_later own1 b2
    have h2 := Has.own own2
    have e2 := e1.trans (b2.mono e1.size)
    have f3 := cellOn d3 b2
    have hlt2 : w.heap.size < w2.heap.size := Nat.lt_of_lt_of_le hlt b2.size
    go_wp2_with (at_builtin; refine wpList_has _ rfl (.tmp 25) (.tmp 28) 24 rfl (w.heap.size + 1) i0 Try.underlying24 hi hz0 hz1 hz2 _ _ (enc o) rfl own1' _ _ _ (encT c) rfl h2 (by omega) hlt2 ?_; intro a3 c3 w3 own3 h3 g3; have b3 := (Below.refl (w.heap.size + 1) w2).grown g3 hlt2 (fun k e => (own1'.lt k e).1); have k3 : w3.cell? ⟨w.heap.size, 3, none⟩ = some (.string m) := (b3.cell (p := ⟨w.heap.size, 3, none⟩) (Nat.lt_succ_self _)).trans f3)
    have e3 := e2.trans (b3.mono (Nat.le_succ _))
    refine (ref_text m _ (by omega)).mono ?_
    rintro e w4 ⟨g4, cap4, rfl, own4, b4⟩
    have own3' := own_later own3 b4
    have h4 := Has.own own4
    have e4 := e3.trans (b4.mono e3.size)
    go_wp2_with (at_builtin; refine wpList_has _ rfl (.tmp 31) (.tmp 34) 24 rfl (w.heap.size + 1) i0 Try.underlying24 hi hz0 hz1 hz2 _ _ (enc o ++ encT c) rfl own3' _ _ _ (encT m) rfl h4 (by omega) (Nat.le_trans hlt2 (Nat.le_trans b3.size b4.size)) ?_; intro a5 c5 w5 own5 h5 g5)
    have e5 := e4.grown g5 e4.size (fun k e => Nat.le_of_lt (own3'.lt k e).1)
    obtain ⟨gg, cc, hf, _, _⟩ := own5.form (by omega)
    cases hf
    go_ret
    exact ⟨gg, _, _, by simp only [List.length_append], rfl, own_low own5 (Nat.le_succ _), e5⟩
  · have hv : putI o a c m = enc o ++ encT c := by unfold putI; rw [hp]; simp
    have HP : Hid _ := hp
    rw [hv]
    clear hp hk hv
    go_enter Try.func16, Try.ntmps16
    go_wp2_with fail
    refine (ref_put o _ ho).mono ?_
    rintro e w1 ⟨g, cap, rfl, own1, b1⟩
    have d0 := cellOn c0 b1
    have d1 := cellOn c1 b1
    have d2 := cellOn c2 b1
    have d3 := cellOn c3 b1
    have e1 := b0.trans (b1.mono b0.size)
    have own1 := own_low own1 b0.size
    clear b0 b1 c0 c1 c2 c3
    go_wp2_with fail
    refine (parts_any o _).mono ?_
    rintro e w' ⟨rfl, rfl⟩
    rw [HP.out]
    simp only [resP]
    go_wp2_with fail
    refine (ref_text c _ (by omega)).mono ?_
    rintro e w2 ⟨g2, cap2, rfl, own2, b2⟩
    have own1' := own_later own1 b2
    have h2 := Has.own own2
    have e2 := e1.trans (b2.mono e1.size)
    go_wp2_with (at_builtin; refine wpList_has _ rfl (.tmp 25) (.tmp 28) 24 rfl w.heap.size i0 Try.underlying24 hi hz0 hz1 hz2 _ _ (enc o) rfl own1' _ _ _ (encT c) rfl h2 (by omega) e2.size ?_; intro a3 c3 w3 own3 h3 g3)
    have e3 := e2.grown g3 e2.size (fun k e => (own1'.lt k e).1)
    obtain ⟨gg, cc, hf, _, _⟩ := own3.form (by omega)
    cases hf
    go_ret
    exact ⟨gg, _, _, by simp, rfl, own3, e3⟩
  · have hv : putI o a c m = enc o := by unfold putI; rw [hp]; simp
    have HP : Hid _ := hp
    rw [hv]
    clear hp hk hv
    go_enter Try.func16, Try.ntmps16
    go_wp2_with fail
    refine (ref_put o _ ho).mono ?_
    rintro e w1 ⟨g, cap, rfl, own1, b1⟩
    have d0 := cellOn c0 b1
    go_wp2_with fail
    refine (parts_any o _).mono ?_
    rintro e w' ⟨rfl, rfl⟩
    rw [HP.out]
    simp only [resP]
    go_wp2_with fail
    go_ret
    exact ⟨g, cap, _, rfl, rfl, own_low own1 (by simp), b0.trans (b1.mono (by simp))⟩
end Op4
end Go.Proofs.Ytegamajcipgkhaa
