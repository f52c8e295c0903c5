/- A frame as it lies in memory, slices of values, and what is asked of a frame: Method, Pc, Depth, Goto, Clear, has, Load, Store. -/
import Derived.Test.YtjlobkohkfcbpaaFrSpec
import Derived.Test.YtjlobkohkfcbpaaLibSl
import Derived.Deep.QuietTactic
import Derived.BigQuiet
import Derived.Handy
namespace Go.Proofs.Ytjlobkohkfcbpaa
namespace Fr
open Mem
open Go.RowKit
set_option linter.unusedVariables false
set_option linter.unusedSimpArgs false
set_option maxRecDepth 100000

/-! ### Slices of values -/
def valE (w : World) (b off : Nat) (x : Vl) : Prop := w.cell? ⟨b, off, none⟩ = some (.bool x.r) ∧ w.cell? ⟨b, off + 1, none⟩ = some (.int .i32 x.n) ∧ Is32 x.n
theorem valE_stable : Stable valE := fun _ _ _ _ _ ⟨h1, h2, h3⟩ hb => ⟨cellOn h1 hb, cellOn h2 hb, h3⟩
abbrev Vs := Sl valE 2
/-- The cells of a slice of values. -/
theorem vs_news {w : World} {a : Option Addr} {n c : Nat} {l : List Vl} (h : Vs w (.slice a n c) l) : ∀ ad, a = some ad → ∀ j u, (cellsV l)[j]? = some u → w.cell? (ad.add j) = some u := by
  intro ad had j u hu
  obtain ⟨a', c', e, h2, h3, h4, h5⟩ := h
  simp only [Value.slice.injEq] at e
  obtain ⟨rfl, rfl, rfl⟩ := e
  have hj : j < 2 * l.length := by
    have := (List.getElem?_eq_some_iff.1 hu).1
    rwa [cellsV_len] at this
  obtain ⟨b, off, e, hlt, hx⟩ := h5 (by omega)
  rw [e] at had
  obtain rfl := Option.some.inj had
  rw [Addr.add_lit]
  have hi : j / 2 < l.length := by omega
  obtain ⟨x1, x2, _⟩ := hx (j / 2) hi
  obtain ⟨c1, c2⟩ := cellsV_at l (j / 2) hi
  rcases (show j = 2 * (j / 2) ∨ j = 2 * (j / 2) + 1 by omega) with e | e
  · rw [show (cellsV l)[j]? = (cellsV l)[2 * (j / 2)]? by rw [← e], c1] at hu
    rw [← hu, ← x1]
    congr 2
    omega
  · rw [show (cellsV l)[j]? = (cellsV l)[2 * (j / 2) + 1]? by rw [← e], c2] at hu
    rw [← hu, ← x2]
    congr 2
    omega
theorem vs_32 {w : World} {v : Value} {l : List Vl} (h : Vs w v l) : ∀ x ∈ l, Is32 x.n := by
  intro x hx
  obtain ⟨i, hi, rfl⟩ := List.getElem_of_mem hx
  obtain ⟨a, c, _, _, _, _, h5⟩ := h
  obtain ⟨b, off, _, _, hx⟩ := h5 (by omega)
  exact (hx i hi).2.2
/-- From its cells. -/
theorem vs_of {w : World} {b off n c : Nat} {l : List Vl} (hn : n = l.length) (hc : n ≤ c) (hm : c ≤ maxLen) (h32 : ∀ x ∈ l, Is32 x.n) (hx : ∀ j u, (cellsV l)[j]? = some u → w.cell? ⟨b, off + j, none⟩ = some u) : Vs w (.slice (some ⟨b, off, none⟩) n c) l := by
  subst hn
  refine ⟨_, c, rfl, hc, hm, fun e => (by cases e), fun h0 => ⟨b, off, rfl, ?_, fun i hi => ?_⟩⟩
  · exact World.block_lt_of_cell? w _ (hx 0 _ (cellsV_at l 0 h0).1)
  · obtain ⟨c1, c2⟩ := cellsV_at l i hi
    refine ⟨?_, ?_, h32 _ (List.getElem_mem hi)⟩
    · rw [← hx _ _ c1]; congr 2; omega
    · rw [← hx _ _ c2]; congr 2; omega
/-- An owned row of values reads so. -/
theorem own_vs {w : World} {B n : Nat} {v : Value} {l : List Vl} (h : w.ownsRow B 31 2 v n (cellsV l)) (h32 : ∀ x ∈ l, Is32 x.n) : Vs w v l ∧ l.length = n := by
  have hl := h.1
  rw [cellsV_len] at hl
  have hn : l.length = n := by omega
  refine ⟨?_, hn⟩
  have hc0 := h
  rcases h.2 with ⟨rfl, rfl⟩ | ⟨g, cap, cur, rfl, hb, hg, hc, hm, hs, ht⟩
  · obtain rfl : l = [] := List.eq_nil_of_length_eq_zero hn
    exact Sl.none _ _ _
  · refine vs_of hn.symm hc hm h32 (fun j u hu => ?_)
    have := hc0.cells (g := g) rfl j u hu
    rwa [Addr.add_lit] at this
theorem vs_len {w : World} {a : Option Addr} {n c : Nat} {l : List Vl} (h : Vs w (.slice a n c) l) : l.length = n ∧ n ≤ c ∧ c ≤ maxLen ∧ (a = none → c = 0) := by
  obtain ⟨a', c', e, h2, h3, h4, h5⟩ := h
  simp only [Value.slice.injEq] at e
  obtain ⟨rfl, rfl, rfl⟩ := e
  exact ⟨rfl, h2, h3, h4⟩

/-! ### A frame -/
/-- A frame in block p: its method, its pc, its locals, room for so many, its stack. -/
structure Fr (B : Nat) (w : World) (p : Nat) (m pc : Int) (ls : List Vl) (room : Nat) (st : List Vl) : Prop where
  blk : ∃ lx sx, w.heap[p]? = some (.cells (frC m pc (ls ++ lx) ls.length (st ++ sx) room st.length).toArray 49 (0, 0)) ∧ (ls ++ lx).length = 16 ∧ (st ++ sx).length = 16
  lo : B ≤ p
  rm : room ≤ 16
  deep : st.length ≤ room
  l32 : ∀ x ∈ ls, Is32 x.n
  s32 : ∀ x ∈ st, Is32 x.n
theorem Fr.lt {B : Nat} {w : World} {p : Nat} {m pc : Int} {ls st : List Vl} {r : Nat} (h : Fr B w p m pc ls r st) : p < w.heap.size := by
  obtain ⟨_, _, h1, _⟩ := h.blk
  exact lt_of_block h1
theorem Fr.len {B : Nat} {w : World} {p : Nat} {m pc : Int} {ls st : List Vl} {r : Nat} (h : Fr B w p m pc ls r st) : ls.length ≤ 16 ∧ st.length ≤ r ∧ r ≤ 16 := by
  obtain ⟨_, _, _, h2, _⟩ := h.blk
  rw [List.length_append] at h2
  exact ⟨by omega, h.deep, h.rm⟩
theorem Fr.off {B : Nat} {w w' : World} {S : Nat → Prop} {p : Nat} {m pc : Int} {ls st : List Vl} {r : Nat} (h : Fr B w p m pc ls r st) (hf : Off S w w') (hS : ¬ S p) : Fr B w' p m pc ls r st := by
  obtain ⟨⟨lx, sx, h1, h2, h3⟩, r1, r2, r3, r4, r5⟩ := h
  exact ⟨⟨lx, sx, blk_off h1 hf hS, h2, h3⟩, r1, r2, r3, r4, r5⟩
theorem Fr.later {B : Nat} {w w' : World} {p : Nat} {m pc : Int} {ls st : List Vl} {r : Nat} (h : Fr B w p m pc ls r st) (hb : Below w.heap.size w w') : Fr B w' p m pc ls r st := h.off (Off.below (fun _ => False) hb) (fun e => e)
theorem Fr.drew {B : Nat} {w : World} {p : Nat} {m pc : Int} {ls st : List Vl} {r : Nat} (h : Fr B w p m pc ls r st) : Fr B w.drew p m pc ls r st := h.later ((Below.refl _ _).drew)
theorem Fr.lower {B B' : Nat} {w : World} {p : Nat} {m pc : Int} {ls st : List Vl} {r : Nat} (h : Fr B w p m pc ls r st) (hB : B' ≤ B) : Fr B' w p m pc ls r st := ⟨h.blk, Nat.le_trans hB h.lo, h.rm, h.deep, h.l32, h.s32⟩
/-- What is written is the frame's own block. -/
abbrev At (p : Nat) : Nat → Prop := fun k => k = p
theorem At.below {p B : Nat} {w w' : World} (h : Off (At p) w w') (hp : B ≤ p) (hB : B ≤ w.heap.size) : Below B w w' := h.to (fun k e => by rw [e]; exact hp) hB
theorem toA {C : List Value} {j : Nat} {u : Value} (h : C[j]? = some u) : C.toArray[j]? = some u := by rw [List.getElem?_toArray]; exact h

theorem ret_b {a b : Bool} (h : a = b) : Ending.returned (.bool a) = .returned (.bool b) := by rw [h]
theorem ret_i {k : IntKind} {a b : Int} (h : a = b) : Ending.returned (.int k a) = .returned (.int k b) := by rw [h]

/-! ### Method, Pc, Depth -/
theorem method_nil (w : World) : Calls Try.prog 18 #[.pointer none] w fun e w' => e = .returned (.int .i64 0) ∧ w = w' := by
  go_enter Try.func18, Try.ntmps18
  go_wp2_with fail
  go_ret
  exact ⟨rfl, rfl⟩
theorem pc_nil (w : World) : Calls Try.prog 17 #[.pointer none] w fun e w' => e = .returned (.int .i64 0) ∧ w = w' := by
  go_enter Try.func17, Try.ntmps17
  go_wp2_with fail
  go_ret
  exact ⟨rfl, rfl⟩
theorem depth_nil (w : World) : Calls Try.prog 16 #[.pointer none] w fun e w' => e = .returned (.int .i64 0) ∧ w = w' := by
  go_enter Try.func16, Try.ntmps16
  go_wp2_with fail
  go_ret
  exact ⟨rfl, rfl⟩
theorem method_any {B : Nat} {w : World} {p : Nat} {m pc : Int} {ls st : List Vl} {r : Nat} (H : Fr B w p m pc ls r st) : Calls Try.prog 18 #[.pointer (some ⟨p, 0, none⟩)] w fun e w' => e = .returned (.int .i64 m) ∧ w = w' := by
  obtain ⟨⟨lx, sx, h1, h2, h3⟩, r1, r2, r3, r4, r5⟩ := H
  have x0 := (blk_cell h1 0).trans (toA (frC_0 m pc _ _ _ _ _ h2 h3))
  clear h1 h2 h3 r1 r2 r3 r4 r5
  go_enter Try.func18, Try.ntmps18
  go_wp2_with fail
  go_ret
  exact ⟨rfl, rfl⟩
theorem pc_any {B : Nat} {w : World} {p : Nat} {m pc : Int} {ls st : List Vl} {r : Nat} (H : Fr B w p m pc ls r st) : Calls Try.prog 17 #[.pointer (some ⟨p, 0, none⟩)] w fun e w' => e = .returned (.int .i64 pc) ∧ w = w' := by
  obtain ⟨⟨lx, sx, h1, h2, h3⟩, r1, r2, r3, r4, r5⟩ := H
  have x1 := (blk_cell h1 1).trans (toA (frC_1 m pc _ _ _ _ _ h2 h3))
  clear h1 h2 h3 r1 r2 r3 r4 r5
  go_enter Try.func17, Try.ntmps17
  go_wp2_with fail
  go_ret
  exact ⟨rfl, rfl⟩
theorem depth_any {B : Nat} {w : World} {p : Nat} {m pc : Int} {ls st : List Vl} {r : Nat} (H : Fr B w p m pc ls r st) : Calls Try.prog 16 #[.pointer (some ⟨p, 0, none⟩)] w fun e w' => e = .returned (.int .i64 st.length) ∧ w = w' := by
  obtain ⟨⟨lx, sx, h1, h2, h3⟩, r1, r2, r3, r4, r5⟩ := H
  have x1 := (blk_cell h1 68).trans (toA (frC_68 m pc _ _ _ _ _ h2 h3))
  clear h1 h2 h3 r1 r2 r3 r4 r5
  go_enter Try.func16, Try.ntmps16
  go_wp2_with fail
  go_ret
  exact ⟨rfl, rfl⟩
/-! ### Goto, Clear -/
theorem goto_nil (i : Int) (w : World) : Calls Try.prog 15 #[.pointer none, .int .i64 i] w fun e w' => e = .returned (.tuple #[]) ∧ w = w' := by
  go_enter Try.func15, Try.ntmps15
  go_wp2_with fail
  go_returns
  exact ⟨rfl, rfl⟩
theorem clear_nil (w : World) : Calls Try.prog 14 #[.pointer none] w fun e w' => e = .returned (.tuple #[]) ∧ w = w' := by
  go_enter Try.func14, Try.ntmps14
  go_wp2_with fail
  go_returns
  exact ⟨rfl, rfl⟩
theorem setA (C : List Value) (j : Nat) (u : Value) : C.toArray.setIfInBounds j u = (C.set j u).toArray := by simp
theorem goto_any {B : Nat} {w : World} {p : Nat} {m pc : Int} {ls st : List Vl} {r : Nat} (i : Int) (H : Fr B w p m pc ls r st) : Calls Try.prog 15 #[.pointer (some ⟨p, 0, none⟩), .int .i64 i] w fun e w' => e = .returned (.tuple #[]) ∧ Fr B w' p m i ls r st ∧ Off (At p) w w' := by
  obtain ⟨⟨lx, sx, h1, h2, h3⟩, r1, r2, r3, r4, r5⟩ := H
  have x1 := (blk_cell h1 1).trans (toA (frC_1 m pc _ _ _ _ _ h2 h3))
  have f1 := blk_free h1 1
  have HE : Hid (Fr B (w.setCell ⟨p, 1, none⟩ (.int .i64 i)) p m i ls r st) := by
    have := blk_set h1 1 (.int .i64 i)
    rw [setA, frC_set1 m pc _ _ _ _ _ h2 h3 i] at this
    exact ⟨⟨lx, sx, this, h2, h3⟩, r1, r2, r3, r4, r5⟩
  clear h1 h2 h3 r1 r2 r3 r4 r5
  go_enter Try.func15, Try.ntmps15
  go_wp2_with fail
  go_returns
  exact ⟨rfl, HE.out, Off.set _ _ _ rfl⟩
theorem clear_any {B : Nat} {w : World} {p : Nat} {m pc : Int} {ls st : List Vl} {r : Nat} (H : Fr B w p m pc ls r st) : Calls Try.prog 14 #[.pointer (some ⟨p, 0, none⟩)] w fun e w' => e = .returned (.tuple #[]) ∧ Fr B w' p m pc ls r [] ∧ Off (At p) w w' := by
  obtain ⟨⟨lx, sx, h1, h2, h3⟩, r1, r2, r3, r4, r5⟩ := H
  have x1 := (blk_cell h1 68).trans (toA (frC_68 m pc _ _ _ _ _ h2 h3))
  have f1 := blk_free h1 68
  have HE : Hid (Fr B (w.setCell ⟨p, 68, none⟩ (.int .i64 0)) p m pc ls r []) := by
    have := blk_set h1 68 (.int .i64 ((0 : Nat) : Int))
    rw [setA, frC_set68 m pc _ _ _ _ _ h2 h3 0] at this
    exact ⟨⟨lx, st ++ sx, this, h2, h3⟩, r1, r2, Nat.zero_le _, r4, fun x hx => by simp at hx⟩
  clear h1 h2 h3 r1 r2 r3 r4 r5
  go_enter Try.func14, Try.ntmps14
  go_wp2_with fail
  go_returns
  exact ⟨rfl, HE.out, Off.set _ _ _ rfl⟩
/-! ### has -/
theorem has_nil (i : Int) (w : World) : Calls Try.prog 23 #[.pointer none, .int .i64 i] w fun e w' => e = .returned (.bool false) ∧ w = w' := by
  go_enter Try.func23, Try.ntmps23
  go_wp2_with fail
  go_ret
  exact ⟨rfl, rfl⟩
def hasL (n : Nat) (i : Int) : Bool := decide (0 ≤ i) && decide (i < n)
theorem has_any {B : Nat} {w : World} {p : Nat} {m pc : Int} {ls st : List Vl} {r : Nat} (i : Int) (H : Fr B w p m pc ls r st) : Calls Try.prog 23 #[.pointer (some ⟨p, 0, none⟩), .int .i64 i] w fun e w' => e = .returned (.bool (hasL ls.length i)) ∧ w = w' := by
  obtain ⟨⟨lx, sx, h1, h2, h3⟩, r1, r2, r3, r4, r5⟩ := H
  have x1 := (blk_cell h1 34).trans (toA (frC_34 m pc _ _ _ _ _ h2 h3))
  have HE : Hid (hasL ls.length i = (decide (0 ≤ i) && decide (i < (ls.length : Int)))) := rfl
  clear h1 h2 h3 r1 r2 r3 r4 r5
  generalize hasL ls.length i = hx at *
  generalize ls.length = n at *
  by_cases h0 : 0 ≤ i
  · have d1 : decide (0 ≤ i) = true := by simp; omega
    go_enter Try.func23, Try.ntmps23
    go_wp2_with fail
    go_ret
    exact ⟨ret_b (by rw [HE.out, d1]; simp), rfl⟩
  · have d1 : decide (0 ≤ i) = false := by simp; omega
    go_enter Try.func23, Try.ntmps23
    go_wp2_with fail
    go_ret
    exact ⟨ret_b (by rw [HE.out, d1]; simp), rfl⟩
end Fr
end Go.Proofs.Ytjlobkohkfcbpaa
