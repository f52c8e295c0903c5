/- The contracts of op's reader: number, text, ask: what speaks of the program. -/
import Derived.Test.YtjblmgdjaaeedaaGreatOpWrite
import Derived.Test.YtjblmgdjaaeedaaGreatBaseOp
namespace Go.Proofs.YtjblmgdjaaeedaaGreat
namespace Op4
open Num Kind
open Go.RowKit
set_option linter.unusedVariables false
set_option maxRecDepth 100000

structure Rdr (w : World) (R : Nat) (p : Option Addr) (n k : Nat) (e : Int) : Prop where
  lt : R < w.heap.size
  c0 : w.cell? ⟨R, 0, none⟩ = some (.slice p n k)
  c1 : w.cell? ⟨R, 1, none⟩ = some (.int .i64 e)
  f0 : w.frozen? ⟨R, 0, none⟩ = false
  f1 : w.frozen? ⟨R, 1, none⟩ = false
theorem Rdr.stored {w : World} {R : Nat} {p : Option Addr} {n k : Nat} {e : Int} (h : Rdr w R p n k e) (p' : Option Addr) (n' k' : Nat) (e' : Int) : Rdr ((w.setCell ⟨R, 0, none⟩ (.slice p' n' k')).setCell ⟨R, 1, none⟩ (.int .i64 e')) R p' n' k' e' := by
  refine ⟨by simpa [World.setCell] using h.lt, ?_, ?_, by simpa using h.f0, by simpa using h.f1⟩
  · rw [set_near _ _ _ _ _ (by decide)]
    exact set_same _ _ _ _ _ h.c0
  · exact set_same _ _ _ _ (.int .i64 e) (by rw [set_near _ _ _ _ _ (by decide)]; exact h.c1)
theorem Rdr.err {w : World} {R : Nat} {p : Option Addr} {n k : Nat} {e : Int} (h : Rdr w R p n k e) (e' : Int) : Rdr (w.setCell ⟨R, 1, none⟩ (.int .i64 e')) R p n k e' := by
  refine ⟨by simpa [World.setCell] using h.lt, ?_, ?_, by simpa using h.f0, by simpa using h.f1⟩
  · rw [set_near _ _ _ _ _ (by decide)]
    exact h.c0
  · exact set_same _ _ _ _ (.int .i64 e) h.c1
theorem Rdr.grown {w w' : World} {R : Nat} {p : Option Addr} {n k : Nat} {e : Int} {row : Option Nat} (h : Rdr w R p n k e) (hg : w.grownBy w' row) (hne : some R ≠ row) : Rdr w' R p n k e := by
  have eb : w'.heap[R]? = w.heap[R]? := hg.block R h.lt hne
  have cl : ∀ i, w'.cell? ⟨R, i, none⟩ = w.cell? ⟨R, i, none⟩ := fun i => World.cell?_of_block (w := w) eb
  have fr : ∀ i, w'.frozen? ⟨R, i, none⟩ = w.frozen? ⟨R, i, none⟩ := fun i => World.frozen?_of_block (w := w) eb
  exact ⟨Nat.lt_of_lt_of_le h.lt hg.size, by rw [cl]; exact h.c0, by rw [cl]; exact h.c1, by rw [fr]; exact h.f0, by rw [fr]; exact h.f1⟩
theorem set_grown (w : World) (R i : Nat) (v : Value) : w.grownBy (w.setCell ⟨R, i, none⟩ v) (some R) :=
  ⟨rfl, rfl, rfl, by simp [World.setCell], fun k _ hne => Below.heap_setCell w _ v k (fun e => hne (by rw [e]))⟩
theorem grown_trans {a b c : World} {row : Option Nat} (h : a.grownBy b row) (h2 : b.grownBy c row) : a.grownBy c row :=
  ⟨h2.os.trans h.os, h2.tape.trans h.tape, h2.output.trans h.output, Nat.le_trans h.size h2.size, fun k hk hn => (h2.block k (Nat.lt_of_lt_of_le hk h.size) hn).trans (h.block k hk hn)⟩

/-- One part read behind what has been: the answer, what is left, the error. -/
def rdN (e : Int) (xs : List Int) : Int × List Int × Int := if e = 0 then ((get xs).1, xs.drop (get xs).2.1.toNat, (get xs).2.2) else (0, xs, e)
def rdT (e : Int) (xs : List Int) : List Int × List Int × Int := if e = 0 then ((getText xs).1, xs.drop (getText xs).2.1.toNat, (getText xs).2.2) else ([], xs, e)
def askF (e : Int) (q : Bool) : Int := if e = 0 ∧ q = false then 1 else e

theorem oask_any (R : Nat) (p : Option Addr) (n k : Nat) (e : Int) (q : Bool) (w : World) (H : Rdr w R p n k e) :
    Calls Tryz.prog 150 #[.pointer (some ⟨R, 0, none⟩), .bool q] w fun r w' => r = .returned (.tuple #[]) ∧ Rdr w' R p n k (askF e q) ∧ w.grownBy w' (some R) := by
  obtain ⟨hlt, c0, c1, f0, f1⟩ := H
  by_cases he : e = 0
  · subst he
    cases q
    · go_enter Tryz.func150, Tryz.ntmps150
      go_wp2_with fail
      go_returns
      exact ⟨rfl, Rdr.err ⟨hlt, c0, c1, f0, f1⟩ 1, set_grown _ _ _ _⟩
    · go_enter Tryz.func150, Tryz.ntmps150
      go_wp2_with fail
      go_returns
      exact ⟨rfl, ⟨hlt, c0, c1, f0, f1⟩, World.grownBy.refl _ _⟩
  · have h' : (e == 0) = false := beq_eq_false_iff_ne.2 he
    have hv : askF e q = e := by unfold askF; rw [if_neg (fun h => he h.1)]
    rw [hv]
    go_enter Tryz.func150, Tryz.ntmps150
    go_wp2_with fail
    go_returns
    exact ⟨rfl, ⟨hlt, c0, c1, f0, f1⟩, World.grownBy.refl _ _⟩

set_option maxHeartbeats 1000000 in
theorem onumber_any (R : Nat) (p : Option Addr) (n k : Nat) (xs : List Int) (e : Int) (w0 w : World) (h : Has w0 p n k xs) (hb : Bytes xs) (b : Below w0.heap.size w0 w) (hR : w0.heap.size ≤ R) (H : Rdr w R p n k e) :
    Calls Tryz.prog 149 #[.pointer (some ⟨R, 0, none⟩)] w fun r w' => ∃ p' n' k', r = .returned (.int .i64 (rdN e xs).1) ∧ Has w0 p' n' k' (rdN e xs).2.1 ∧ Rdr w' R p' n' k' (rdN e xs).2.2 ∧ w.grownBy w' (some R) := by
  have HR := H
  obtain ⟨hlt, c0, c1, f0, f1⟩ := H
  by_cases he : e = 0
  · subst he
    have HG := get_any p n k xs w (h.later b) hb
    have hbd := get_bd xs hb
    have hv : rdN 0 xs = ((get xs).1, xs.drop (get xs).2.1.toNat, (get xs).2.2) := by unfold rdN; rw [if_pos rfl]
    rw [hv]
    clear hv
    have hcap := h.cap
    have hmax := h.max
    unfold maxLen at hmax
    have hlen := h.len
    generalize get xs = r at *
    obtain ⟨N, K, E⟩ := r
    simp only at hbd ⊢
    obtain ⟨h64, hk20, hk2, he0, he2⟩ := hbd
    obtain ⟨K, rfl⟩ := Int.eq_ofNat_of_zero_le hk20
    have hK : K ≤ n := by omega
    simp only [Int.toNat_natCast]
    clear hk20 hk2 hlen
    cases p with
    | none =>
      obtain ⟨rfl, rfl⟩ := h.nil rfl
      obtain rfl : K = 0 := by omega
      go_enter Tryz.func149, Tryz.ntmps149
      go_wp2_with fail
      refine HG.mono ?_
      rintro e w1 ⟨rfl, rfl⟩
      simp only [resG]
      go_wp2_with fail
      go_ret
      exact ⟨_, _, _, rfl, h, HR.stored _ _ _ _, grown_trans (set_grown _ _ _ _) (set_grown _ _ _ _)⟩
    | some ad =>
      obtain ⟨ab, ao, asp⟩ := ad
      by_cases hkK : k = K
      · subst hkK
        obtain rfl : n = k := by omega
        have hz : Has w0 (some ⟨ab, ao, asp⟩) 0 0 (xs.drop n) := ⟨by rw [List.length_drop, h.len]; omega, Nat.le_refl _, Nat.zero_le _, fun e => (by cases e), fun h => absurd h (by omega)⟩
        go_enter Tryz.func149, Tryz.ntmps149
        go_wp2_with fail
        refine HG.mono ?_
        rintro e w1 ⟨rfl, rfl⟩
        simp only [resG]
        go_wp2_with fail
        go_ret
        exact ⟨_, _, _, rfl, hz, HR.stored _ _ _ _, grown_trans (set_grown _ _ _ _) (set_grown _ _ _ _)⟩
      · by_cases hn0 : n = 0
        · subst hn0
          obtain rfl : K = 0 := by omega
          go_enter Tryz.func149, Tryz.ntmps149
          go_wp2_with fail
          refine HG.mono ?_
          rintro e w1 ⟨rfl, rfl⟩
          simp only [resG]
          go_wp2_with fail
          go_ret
          exact ⟨_, _, _, rfl, h, HR.stored _ _ _ _, grown_trans (set_grown _ _ _ _) (set_grown _ _ _ _)⟩
        · obtain ⟨b', off', e', _, _⟩ := h.cells (by omega)
          simp only [Option.some.injEq, Addr.mk.injEq] at e'
          obtain ⟨rfl, rfl, rfl⟩ := e'
          have hz := h.drop K hK
          go_enter Tryz.func149, Tryz.ntmps149
          go_wp2_with fail
          refine HG.mono ?_
          rintro e w1 ⟨rfl, rfl⟩
          simp only [resG]
          go_wp2_with fail
          go_ret
          exact ⟨_, _, _, rfl, hz, HR.stored _ _ _ _, grown_trans (set_grown _ _ _ _) (set_grown _ _ _ _)⟩
  · have h' : (e != 0) = true := by simpa using he
    have hv : rdN e xs = (0, xs, e) := by unfold rdN; rw [if_neg he]
    rw [hv]
    go_enter Tryz.func149, Tryz.ntmps149
    go_wp2_with fail
    go_ret
    exact ⟨_, _, _, rfl, h, HR, World.grownBy.refl _ _⟩
set_option maxHeartbeats 1000000 in
theorem otext_any (R : Nat) (p : Option Addr) (n k : Nat) (xs : List Int) (e : Int) (w0 w : World) (h : Has w0 p n k xs) (hb : Bytes xs) (b : Below w0.heap.size w0 w) (hR : w0.heap.size ≤ R) (H : Rdr w R p n k e) (hnn : n ≤ 4611686018427387904) :
    Calls Tryz.prog 155 #[.pointer (some ⟨R, 0, none⟩)] w fun r w' => ∃ p' n' k', r = .returned (.string (strOfNums (rdT e xs).1)) ∧ Has w0 p' n' k' (rdT e xs).2.1 ∧ Rdr w' R p' n' k' (rdT e xs).2.2 ∧ w.grownBy w' (some R) := by
  have HR := H
  obtain ⟨hlt, c0, c1, f0, f1⟩ := H
  by_cases he : e = 0
  · subst he
    have HG := get_text p n k xs w (h.later b) hb (by omega)
    have hbd := getText_bd xs hb
    have hv : rdT 0 xs = ((getText xs).1, xs.drop (getText xs).2.1.toNat, (getText xs).2.2) := by unfold rdT; rw [if_pos rfl]
    rw [hv]
    clear hv
    have hcap := h.cap
    have hmax := h.max
    unfold maxLen at hmax
    have hlen := h.len
    generalize getText xs = r at *
    obtain ⟨N, K, E⟩ := r
    simp only at hbd ⊢
    obtain ⟨hsb, hsl, hk20, hk2, he0, he2⟩ := hbd
    obtain ⟨K, rfl⟩ := Int.eq_ofNat_of_zero_le hk20
    have hK : K ≤ n := by omega
    simp only [Int.toNat_natCast]
    clear hk20 hk2 hlen hsl
    cases p with
    | none =>
      obtain ⟨rfl, rfl⟩ := h.nil rfl
      obtain rfl : K = 0 := by omega
      go_enter Tryz.func155, Tryz.ntmps155
      go_wp2_with fail
      refine HG.mono ?_
      rintro e w1 ⟨rfl, rfl⟩
      simp only [resT]
      go_wp2_with fail
      go_ret
      exact ⟨_, _, _, rfl, h, HR.stored _ _ _ _, grown_trans (set_grown _ _ _ _) (set_grown _ _ _ _)⟩
    | some ad =>
      obtain ⟨ab, ao, asp⟩ := ad
      by_cases hkK : k = K
      · subst hkK
        obtain rfl : n = k := by omega
        have hz : Has w0 (some ⟨ab, ao, asp⟩) 0 0 (xs.drop n) := ⟨by rw [List.length_drop, h.len]; omega, Nat.le_refl _, Nat.zero_le _, fun e => (by cases e), fun h => absurd h (by omega)⟩
        go_enter Tryz.func155, Tryz.ntmps155
        go_wp2_with fail
        refine HG.mono ?_
        rintro e w1 ⟨rfl, rfl⟩
        simp only [resT]
        go_wp2_with fail
        go_ret
        exact ⟨_, _, _, rfl, hz, HR.stored _ _ _ _, grown_trans (set_grown _ _ _ _) (set_grown _ _ _ _)⟩
      · by_cases hn0 : n = 0
        · subst hn0
          obtain rfl : K = 0 := by omega
          go_enter Tryz.func155, Tryz.ntmps155
          go_wp2_with fail
          refine HG.mono ?_
          rintro e w1 ⟨rfl, rfl⟩
          simp only [resT]
          go_wp2_with fail
          go_ret
          exact ⟨_, _, _, rfl, h, HR.stored _ _ _ _, grown_trans (set_grown _ _ _ _) (set_grown _ _ _ _)⟩
        · obtain ⟨b', off', e', _, _⟩ := h.cells (by omega)
          simp only [Option.some.injEq, Addr.mk.injEq] at e'
          obtain ⟨rfl, rfl, rfl⟩ := e'
          have hz := h.drop K hK
          go_enter Tryz.func155, Tryz.ntmps155
          go_wp2_with fail
          refine HG.mono ?_
          rintro e w1 ⟨rfl, rfl⟩
          simp only [resT]
          go_wp2_with fail
          go_ret
          exact ⟨_, _, _, rfl, hz, HR.stored _ _ _ _, grown_trans (set_grown _ _ _ _) (set_grown _ _ _ _)⟩
  · have h' : (e != 0) = true := by simpa using he
    have hv : rdT e xs = ([], xs, e) := by unfold rdT; rw [if_neg he]
    rw [hv]
    go_enter Tryz.func155, Tryz.ntmps155
    go_wp2_with fail
    go_ret
    exact ⟨_, _, _, rfl, h, HR, World.grownBy.refl _ _⟩
end Op4
end Go.Proofs.YtjblmgdjaaeedaaGreat
