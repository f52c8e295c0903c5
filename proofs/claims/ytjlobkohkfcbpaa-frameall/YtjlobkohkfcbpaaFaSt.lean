/- What FrameAll's main loop carries on: the frame, the locals' row, the stack's row; a slice of the law's own Op that came in. -/
import Derived.Test.YtjlobkohkfcbpaaFrZeros
import Derived.Test.YtjlobkohkfcbpaaFrLawR
import Derived.Test.YtjlobkohkfcbpaaFrLoad
namespace Go.Proofs.Ytjlobkohkfcbpaa
namespace Fr
open Mem
open Go.RowKit
set_option linter.unusedVariables false
set_option linter.unusedSimpArgs false
set_option maxRecDepth 100000

/-! ### Ops -/
structure OpL where
  kd : Int
  i : Int
  vs : List Vl
def Is64 (n : Int) : Prop := -9223372036854775808 ≤ n ∧ n ≤ 9223372036854775807
def opE (w : World) (b off : Nat) (o : OpL) : Prop := w.cell? ⟨b, off, none⟩ = some (.int .i64 o.kd) ∧ w.cell? ⟨b, off + 1, none⟩ = some (.int .i64 o.i) ∧ (Is64 o.kd ∧ Is64 o.i) ∧ ∃ v, w.cell? ⟨b, off + 2, none⟩ = some v ∧ Vs w v o.vs
theorem opE_stable : Stable opE := fun _ _ _ _ _ ⟨h1, h2, h3, v, h4, h5⟩ hb => ⟨cellOn h1 hb, cellOn h2 hb, h3, v, cellOn h4 hb, h5.later valE_stable hb⟩
section
variable {H : Type} {enc : TypeId × Value → H} {W : World} {base : Nat} {spare : Nat → Bool} {held : Bool}
theorem open_ops {fuel : Nat} {cs : List Value} {x : DataW H × List MemPlace} (h : DataW.trod enc Try.prog W base spare held fuel 23 cs = some x) : ∃ v L, cs = [v] ∧ Sl opE 3 W v L :=
  open_row ⟨0, 0, []⟩ opE 3 Try.underlying23 (by kernel_rfl) (by decide) (fun fuel cs x h hl => by
    obtain ⟨xs, n, _, _, _, hxl, hf⟩ := DataW.trod_struct Try.underlying27 h
    match xs, hxl with
    | [y0, y1, y2], _ =>
      obtain ⟨a0, e0, s0⟩ := trod_i (hf 0 _ rfl)
      obtain ⟨a1, e1, s1⟩ := trod_i (hf 1 _ rfl)
      obtain ⟨v2, L2, e2, s2⟩ := open_vs (hf 2 _ rfl)
      exact ⟨⟨a0, a1, L2⟩, fun b off hc => ⟨hc 0 _ (take1 e0), hc 1 _ (take1 e1), ⟨s0, s1⟩, v2, hc 2 _ (take1 e2), s2⟩⟩) h
end
/-- A slice of ops, opened at op i. -/
theorem op_at {w : World} {a : Option Addr} {n c : Nat} {l : List OpL} (h : Sl opE 3 w (.slice a n c) l) (i : Nat) (hi : i < l.length) : ∃ b off va vn vc, a = some ⟨b, off, none⟩ ∧ w.cell? ⟨b, off + i * 3, none⟩ = some (.int .i64 l[i].kd) ∧ w.cell? ⟨b, off + i * 3 + 1, none⟩ = some (.int .i64 l[i].i) ∧ w.cell? ⟨b, off + i * 3 + 2, none⟩ = some (.slice va vn vc) ∧ Vs w (.slice va vn vc) l[i].vs ∧ Is64 l[i].kd ∧ Is64 l[i].i := by
  obtain ⟨a', c', e, _, _, _, hx⟩ := h
  simp only [Value.slice.injEq] at e
  obtain ⟨rfl, _, rfl⟩ := e
  obtain ⟨b, off, rfl, _, hx⟩ := hx (by omega)
  obtain ⟨h1, h2, h3, v, h4, h5⟩ := hx i hi
  obtain ⟨va, vc, e, _⟩ := id h5
  subst e
  exact ⟨b, off, va, _, vc, rfl, h1, h2, h4, h5, h3⟩
theorem op_len {w : World} {a : Option Addr} {n c : Nat} {l : List OpL} (h : Sl opE 3 w (.slice a n c) l) : l.length = n ∧ n ≤ c ∧ c ≤ maxLen := by
  obtain ⟨a', c', e, h2, h3, h4, h5⟩ := h
  simp only [Value.slice.injEq] at e
  obtain ⟨rfl, rfl, rfl⟩ := e
  exact ⟨rfl, h2, h3⟩
/-! ### Rows of values -/
theorem made_two (m : Nat) : (madeCells zAgg.cells (m * 2)).toList = cellsV (List.replicate m v0) := by
  apply List.ext_getElem?
  intro i
  have e2 : zAgg.cells.size = 2 := rfl
  by_cases hi : i < m * 2
  · obtain ⟨c1, c2⟩ := cellsV_at (List.replicate m v0) (i / 2) (by rw [List.length_replicate]; omega)
    have hs : i < (madeCells zAgg.cells (m * 2)).toList.length := by simp [madeCells]; omega
    rw [List.getElem?_eq_getElem hs]
    have hg : (madeCells zAgg.cells (m * 2)).toList[i] = zAgg.cells[i % 2]! := by simp [madeCells, e2]
    rw [hg]
    rcases (show i = 2 * (i / 2) ∨ i = 2 * (i / 2) + 1 by omega) with e | e
    · rw [show (cellsV (List.replicate m v0))[i]? = (cellsV (List.replicate m v0))[2 * (i / 2)]? by rw [← e], c1, show i % 2 = 0 by omega]
      simp [zAgg, v0]
      rfl
    · rw [show (cellsV (List.replicate m v0))[i]? = (cellsV (List.replicate m v0))[2 * (i / 2) + 1]? by rw [← e], c2, show i % 2 = 1 by omega]
      simp [zAgg, v0]
      rfl
  · rw [List.getElem?_eq_none (by simp [madeCells]; omega), List.getElem?_eq_none (by rw [cellsV_len, List.length_replicate]; omega)]
/-- One value stored into an own row. -/
theorem own_put {w : World} {base n g cap : Nat} {l : List Vl} (h : w.ownsRow base 31 2 (.slice (some ⟨g, 0, none⟩) n cap) n (cellsV l)) (i : Nat) (hi : i < l.length) (x : Vl) :
    ((w.setCell ⟨g, i * 2, none⟩ (.bool x.r)).setCell ⟨g, i * 2 + 1, none⟩ (.int .i32 x.n)).ownsRow base 31 2 (.slice (some ⟨g, 0, none⟩) n cap) n (cellsV (l.set i x)) := by
  have h1 := (h.stored (i * 2) (.bool x.r)).1
  have h2 := (h1.stored (i * 2 + 1) (.int .i32 x.n)).1
  rw [Nat.mul_comm i 2, cellsV_set l i hi x] at h2
  rw [Nat.mul_comm i 2]
  exact h2
/-- The first of an own row. -/
theorem own_cut {w : World} {base n c : Nat} {a : Option Addr} {l : List Vl} (h : w.ownsRow base 31 2 (.slice a n c) n (cellsV l)) (k : Nat) (hk : k ≤ n) : w.ownsRow base 31 2 (.slice a k c) k (cellsV (l.take k)) := by
  have hl := h.1
  rw [cellsV_len] at hl
  refine ⟨by rw [cellsV_len, List.length_take]; omega, ?_⟩
  rcases h.2 with ⟨e, h0⟩ | ⟨g, cap, cur, e, hb, hg, hn, hm, hs, ht⟩
  · simp only [Value.slice.injEq] at e
    obtain ⟨rfl, rfl, rfl⟩ := e
    obtain rfl : k = 0 := by omega
    exact .inl ⟨rfl, rfl⟩
  · simp only [Value.slice.injEq, true_and] at e
    obtain ⟨rfl, rfl⟩ := e
    refine .inr ⟨g, c, cur, rfl, hb, hg, by omega, hm, hs, ?_⟩
    rw [cellsV_take, ← ht, List.take_take, Nat.min_eq_left (by omega), Nat.mul_comm]
/-- The locals' row and the stack's. -/
structure Rw (w W wr : World) (p C : Nat) (lv sv : Value) (ls st : List Vl) : Prop where
  len : ls.length = C
  l : wr.ownsRow w.heap.size 31 2 lv C (cellsV ls)
  s : wr.ownsRow W.heap.size 31 2 sv st.length (cellsV st)
  lb : ∀ k, lv.ownBlock = some k → k < W.heap.size
  p0 : w.heap.size ≤ p
  p1 : p < W.heap.size
  be : Below w.heap.size w wr
  bg : W.heap.size ≤ wr.heap.size
theorem Rw.later {w W wr wr' : World} {p C : Nat} {lv sv : Value} {ls st : List Vl} (h : Rw w W wr p C lv sv ls st) (hb : Below wr.heap.size wr wr') : Rw w W wr' p C lv sv ls st :=
  ⟨h.len, own_later h.l hb, own_later h.s hb, h.lb, h.p0, h.p1, h.be.trans (hb.mono h.be.size), Nat.le_trans h.bg hb.size⟩
theorem Rw.drew {w W wr : World} {p C : Nat} {lv sv : Value} {ls st : List Vl} (h : Rw w W wr p C lv sv ls st) : Rw w W wr.drew p C lv sv ls st := h.later ((Below.refl _ _).drew)
theorem Rw.off {w W wr wr' : World} {p C : Nat} {lv sv : Value} {ls st : List Vl} {B : Nat} {m pc : Int} {r : Nat} {ls' st' : List Vl} (h : Rw w W wr p C lv sv ls st) (F : Fr B wr p m pc ls' r st') (o : Off (At p) wr wr') : Rw w W wr' p C lv sv ls st :=
  ⟨h.len, own_off h.l o (fun k e hk => fr_own_ne F h.l (by decide) (by rw [e, hk])), own_off h.s o (fun k e hk => fr_own_ne F h.s (by decide) (by rw [e, hk])), h.lb, h.p0, h.p1, h.be.trans (At.below o h.p0 h.be.size), Nat.le_trans h.bg o.size⟩
theorem Rw.stack {w W wr wr' : World} {p C : Nat} {lv sv sv' : Value} {ls st st' : List Vl} (h : Rw w W wr p C lv sv ls st) (hb : Below wr.heap.size wr wr') (hs : wr'.ownsRow W.heap.size 31 2 sv' st'.length (cellsV st')) : Rw w W wr' p C lv sv' ls st' :=
  ⟨h.len, own_later h.l hb, hs, h.lb, h.p0, h.p1, h.be.trans (hb.mono h.be.size), Nat.le_trans h.bg hb.size⟩
theorem Rw.nil {w W wr : World} {p C : Nat} {lv sv : Value} {ls st : List Vl} (h : Rw w W wr p C lv sv ls st) : Rw w W wr p C lv (.slice none 0 0) ls [] :=
  ⟨h.len, h.l, World.ownsRow_nil _ _ _ _, h.lb, h.p0, h.p1, h.be, h.bg⟩
theorem Rw.cut {w W wr : World} {p C : Nat} {lv : Value} {a : Option Addr} {n c : Nat} {ls st : List Vl} (h : Rw w W wr p C lv (.slice a n c) ls st) (hn : st.length = n) (k : Nat) (hk : k ≤ n) : Rw w W wr p C lv (.slice a k c) ls (st.take k) := by
  have hs := h.s
  rw [hn] at hs
  refine ⟨h.len, h.l, ?_, h.lb, h.p0, h.p1, h.be, h.bg⟩
  have := own_cut hs k hk
  rwa [show (st.take k).length = k by rw [List.length_take]; omega]
theorem Rw.put {w W wr : World} {p C g cap : Nat} {sv : Value} {ls st : List Vl} (h : Rw w W wr p C (.slice (some ⟨g, 0, none⟩) C cap) sv ls st) (i : Nat) (hi : i < C) (x : Vl) : Rw w W ((wr.setCell ⟨g, i * 2, none⟩ (.bool x.r)).setCell ⟨g, i * 2 + 1, none⟩ (.int .i32 x.n)) p C (.slice (some ⟨g, 0, none⟩) C cap) sv (ls.set i x) st := by
  have hg := h.lb g rfl
  have hne : ∀ k, sv.ownBlock = some k → k ≠ g := fun k e hk => by
    have := (World.ownsRow.lt h.s k e).1
    omega
  have hgl := (World.ownsRow.lt h.l g rfl).1
  refine ⟨by rw [List.length_set]; exact h.len, own_put h.l i (by rw [h.len]; exact hi) x, ?_, h.lb, h.p0, h.p1, (h.be.setCell (p := ⟨g, i * 2, none⟩) hgl _).setCell (p := ⟨g, i * 2 + 1, none⟩) hgl _, by simpa [World.setCell] using h.bg⟩
  exact own_other (own_other h.s (a := ⟨g, i * 2, none⟩) (fun e => hne g e rfl) _) (a := ⟨g, i * 2 + 1, none⟩) (fun e => hne g e rfl) _
theorem Fr.put {B : Nat} {wr : World} {p : Nat} {m pc : Int} {ls st : List Vl} {r : Nat} (F : Fr B wr p m pc ls r st) {g : Nat} (hg : g ≠ p) (o1 o2 : Nat) (u1 u2 : Value) : Fr B ((wr.setCell ⟨g, o1, none⟩ u1).setCell ⟨g, o2, none⟩ u2) p m pc ls r st :=
  (F.off (Off.set (S := At g) wr ⟨g, o1, none⟩ u1 rfl) (fun e => hg (Eq.symm e))).off (Off.set (S := At g) _ ⟨g, o2, none⟩ u2 rfl) (fun e => hg (Eq.symm e))
/-- From element k on. -/
theorem vs_drop {w : World} {a : Option Addr} {n c : Nat} {l : List Vl} (h : Vs w (.slice a n c) l) (k : Nat) (hk : k ≤ n) : (∀ w, (Instr.slice 22 (.slice a n c) (some (.int .i64 (k : Int))) none none).run Try.prog w = .ok (.slice (if c = k then a else a.map (·.add (k * 2))) (n - k) (c - k)) w) ∧ Vs w (.slice (if c = k then a else a.map (·.add (k * 2))) (n - k) (c - k)) (l.drop k) := by
  obtain ⟨hl, hc1, hc2, hnil⟩ := vs_len h
  have hu : Try.prog.underlying 22 = some (.slice (Try.prog.elem 22)) := by kernel_rfl
  have e2 : Try.prog.elem 22 = 31 := by kernel_rfl
  have e3 : ∀ w, (sizeOf 31).run Try.prog w = .ok 2 w := fun w => by kernel_rfl
  refine ⟨fun w => ?_, ?_⟩
  · rw [run_slice_l (ht := hu) (h0 := by omega) (h1 := by omega), e2, e3, Result.andThen_ok, Int.toNat_natCast, sliced]
  · refine ⟨_, c - k, by rw [List.length_drop, hl], by rw [List.length_drop]; omega, by omega, fun e => ?_, fun h0 => ?_⟩
    · by_cases hck : c = k
      · omega
      · rw [if_neg hck] at e
        cases a with
        | none => have := hnil rfl; omega
        | some ad => simp at e
    · rw [List.length_drop] at h0
      obtain ⟨a', c', e, _, _, _, hx⟩ := h
      simp only [Value.slice.injEq] at e
      obtain ⟨rfl, _, rfl⟩ := e
      obtain ⟨b, off, rfl, hlt, hx⟩ := hx (by omega)
      refine ⟨b, off + k * 2, by rw [if_neg (by omega)]; simp [Addr.add_lit], hlt, fun i hi => ?_⟩
      rw [List.getElem_drop]
      have := hx (k + i) (by rw [List.length_drop] at hi; omega)
      rw [show off + k * 2 + i * 2 = off + (k + i) * 2 by omega]
      exact this
theorem slice_head (a : Option Addr) (n c k : Nat) (hk : k ≤ c) : ∀ w, (Instr.slice 22 (.slice a n c) none (some (.int .i64 (k : Int))) none).run Try.prog w = .ok (.slice a k c) w := by
  intro w
  have hu : Try.prog.underlying 22 = some (.slice (Try.prog.elem 22)) := by kernel_rfl
  have e2 : Try.prog.elem 22 = 31 := by kernel_rfl
  have e3 : ∀ w, (sizeOf 31).run Try.prog w = .ok 2 w := fun w => by kernel_rfl
  rw [run_slice_h (ht := hu) (h0 := by omega) (h2 := by omega), e2, e3, Result.andThen_ok, Int.toNat_natCast, sliced]
  congr 2
  cases a with
  | none => simp
  | some ad => simp [Addr.add]
end Fr
end Go.Proofs.Ytjlobkohkfcbpaa
