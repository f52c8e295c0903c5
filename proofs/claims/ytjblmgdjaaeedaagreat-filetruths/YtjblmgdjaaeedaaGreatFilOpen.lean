/- A class that came in, opened: it lies in memory as the walks ask it. -/
import Derived.Test.YtjblmgdjaaeedaaGreatClsMem
import Derived.OpenShut
import Derived.Lib.SmallJoins
import Derived.Deep.Slices
namespace Go.Proofs.YtjblmgdjaaeedaaGreat
namespace Fil
open Num Kind Op4 Cls
open Go.RowKit
set_option linter.unusedVariables false
set_option linter.unusedSimpArgs false
set_option maxRecDepth 100000

theorem spot_none {w : World} {a : Addr} {v : Value} (h : w.cell? a = some v) : a.spot = none := by
  cases hs : a.spot with
  | none => rfl
  | some s =>
    unfold World.cell? at h
    split at h
    · simp [hs] at h
    · cases h
theorem add2 (a : Addr) (i j : Nat) : (a.add i).add j = a.add (i + j) := by
  obtain ⟨b, off, sp⟩ := a
  simp only [Addr.add]
  by_cases hi : i = 0 <;> by_cases hj : j = 0 <;> simp_all <;> omega
section
variable {H : Type} {enc : TypeId × Value → H} {W : World} {base : Nat} {spare : Nat → Bool} {held : Bool}

theorem open_row {α : Type} (dflt : α) (E : World → Nat → Nat → α → Prop) (size : Nat) {t e : TypeId} (ht : Tryz.prog.underlying t = some (.slice e)) (hc : Tryz.prog.cellsOf e = size) (hpos : 0 < size)
    (each : ∀ fuel cs x, DataW.trod enc Tryz.prog W base spare held fuel e cs = some x → cs.length = size → ∃ q : α, ∀ b off, (∀ j u, cs[j]? = some u → W.cell? ⟨b, off + j, none⟩ = some u) → E W b off q)
    {fuel : Nat} {cs : List Value} {x : DataW H × List MemPlace} (h : DataW.trod enc Tryz.prog W base spare held fuel t cs = some x) :
    ∃ v L, cs = [v] ∧ Sl E size W v L := by
  rcases Deep.open_slice ht h with ⟨rfl, _⟩ | ⟨a, len, cap, m, n, D, Pl, rfl, _, hl, hm, hmm, _, hx⟩
  · exact ⟨_, [], rfl, Sl.none _ _ _⟩
  · have hlm : len ≤ m := by rw [hmm]; split <;> omega
    rw [hc] at hx
    have eachi : ∀ i, i < len → ∃ q : α, (∃ v0, W.cell? (a.add (i * size)) = some v0) ∧ ∀ b off, a = ⟨b, off, none⟩ → E W b (off + i * size) q := by
      intro i hi
      obtain ⟨cs', h1, h2⟩ := hx i (by omega)
      obtain ⟨_, hlen, hcell⟩ := World.cells?_some h1
      obtain ⟨q, hq⟩ := each _ _ _ h2 hlen
      have h00 := hcell 0 (by omega)
      rw [add2, Nat.add_zero, List.getElem?_eq_getElem (show 0 < cs'.length by omega)] at h00
      refine ⟨q, ⟨_, h00⟩, fun b off e => ?_⟩
      subst e
      refine hq b (off + i * size) (fun j u hj => ?_)
      have hj' : j < cs'.length := (List.getElem?_eq_some_iff.1 hj).1
      have := hcell j (by omega)
      rw [add2, Addr.add_lit] at this
      rw [Nat.add_assoc, this]
      exact hj
    haveI : Inhabited α := ⟨dflt⟩
    obtain ⟨q, hq⟩ := Deep.choose_lt eachi
    refine ⟨_, (List.range len).map q, rfl, some a, cap, by simp, by simpa using hl, hm, fun e => (by cases e), fun h0 => ?_⟩
    have h0' : 0 < len := by simpa using h0
    obtain ⟨⟨v0, c0⟩, _⟩ := hq 0 h0'
    have hs := spot_none c0
    obtain ⟨b, off, sp⟩ := a
    obtain rfl : sp = none := by simpa [Addr.add] using hs
    rw [Nat.zero_mul, Addr.add_lit] at c0
    refine ⟨b, off, rfl, World.block_lt_of_cell? W _ c0, fun i hi => ?_⟩
    have hi' : i < len := by simpa using hi
    simp only [List.getElem_map, List.getElem_range]
    exact (hq i hi').2 b off rfl
theorem trod_str {fuel : Nat} {cs : List Value} {x : DataW H × List MemPlace} (h : DataW.trod enc Tryz.prog W base spare held fuel 9 cs = some x) : ∃ s : ByteArray, cs = [.string s] ∧ s.size ≤ maxLen := by
  obtain ⟨s, e, _, hs⟩ := DataW.trod_string Tryz.underlying9 h
  exact ⟨s, e, hs⟩
theorem trod_i {fuel : Nat} {cs : List Value} {x : DataW H × List MemPlace} (h : DataW.trod enc Tryz.prog W base spare held fuel 3 cs = some x) : ∃ n : Int, cs = [.int .i64 n] := by
  obtain ⟨n, e, _, _⟩ := DataW.trod_int Tryz.underlying3 h
  exact ⟨n, e⟩
theorem trod_bo {fuel : Nat} {cs : List Value} {x : DataW H × List MemPlace} (h : DataW.trod enc Tryz.prog W base spare held fuel 4 cs = some x) : ∃ q : Bool, cs = [.bool q] := by
  obtain ⟨n, e, _⟩ := DataW.trod_bool Tryz.underlying4 h
  exact ⟨n, e⟩
theorem open_strs' {fuel : Nat} {cs : List Value} {x : DataW H × List MemPlace} (h : DataW.trod enc Tryz.prog W base spare held fuel 22 cs = some x) : ∃ v L, cs = [v] ∧ Sl strE 1 W v L :=
  open_row ⟨#[]⟩ strE 1 Tryz.underlying22 (by kernel_rfl) (by decide) (fun fuel cs x h hl => by
    obtain ⟨s, rfl, hs⟩ := trod_str h
    exact ⟨s, fun b off hc => ⟨hc 0 _ rfl, hs⟩⟩) h
theorem take1 {cs : List Value} {j : Nat} {v : Value} (h : (cs.drop j).take 1 = [v]) : cs[j]? = some v := by
  have := congrArg (fun l => l[0]?) h
  simpa using this
theorem open_fields {fuel : Nat} {cs : List Value} {x : DataW H × List MemPlace} (h : DataW.trod enc Tryz.prog W base spare held fuel 23 cs = some x) : ∃ v L, cs = [v] ∧ Sl fieldE 3 W v L :=
  open_row ⟨⟨#[]⟩, ⟨#[]⟩, false⟩ fieldE 3 Tryz.underlying23 (by kernel_rfl) (by decide) (fun fuel cs x h hl => by
    obtain ⟨xs, n, _, _, _, hxl, hf⟩ := DataW.trod_struct Tryz.underlying40 h
    match xs, hxl with
    | [y0, y1, y2], _ =>
      obtain ⟨a0, e0, s0⟩ := trod_str (hf 0 _ rfl)
      obtain ⟨a1, e1, s1⟩ := trod_str (hf 1 _ rfl)
      obtain ⟨a2, e2⟩ := trod_bo (hf 2 _ rfl)
      exact ⟨⟨a0, a1, a2⟩, fun b off hc => ⟨hc 0 _ (take1 e0), hc 1 _ (take1 e1), hc 2 _ (take1 e2), s0, s1⟩⟩) h
theorem open_inss {fuel : Nat} {cs : List Value} {x : DataW H × List MemPlace} (h : DataW.trod enc Tryz.prog W base spare held fuel 42 cs = some x) : ∃ v L, cs = [v] ∧ Sl insE 4 W v L :=
  open_row ⟨0, 0, ⟨#[]⟩, ⟨#[]⟩⟩ insE 4 Tryz.underlying42 (by kernel_rfl) (by decide) (fun fuel cs x h hl => by
    obtain ⟨xs, n, _, _, _, hxl, hf⟩ := DataW.trod_struct Tryz.underlying48 h
    match xs, hxl with
    | [y0, y1, y2, y3], _ =>
      obtain ⟨a0, e0⟩ := trod_i (hf 0 _ rfl)
      obtain ⟨a1, e1⟩ := trod_i (hf 1 _ rfl)
      obtain ⟨a2, e2, s2⟩ := trod_str (hf 2 _ rfl)
      obtain ⟨a3, e3, s3⟩ := trod_str (hf 3 _ rfl)
      exact ⟨⟨a0, a1, a2, a3⟩, fun b off hc => ⟨⟨hc 0 _ (take1 e0), hc 1 _ (take1 e1), hc 2 _ (take1 e2), hc 3 _ (take1 e3)⟩, s2, s3⟩⟩) h
theorem open_traps {fuel : Nat} {cs : List Value} {x : DataW H × List MemPlace} (h : DataW.trod enc Tryz.prog W base spare held fuel 44 cs = some x) : ∃ v L, cs = [v] ∧ Sl trapE 4 W v L :=
  open_row ⟨0, 0, 0, ⟨#[]⟩⟩ trapE 4 Tryz.underlying44 (by kernel_rfl) (by decide) (fun fuel cs x h hl => by
    obtain ⟨xs, n, _, _, _, hxl, hf⟩ := DataW.trod_struct Tryz.underlying80 h
    match xs, hxl with
    | [y0, y1, y2, y3], _ =>
      obtain ⟨a0, e0⟩ := trod_i (hf 0 _ rfl)
      obtain ⟨a1, e1⟩ := trod_i (hf 1 _ rfl)
      obtain ⟨a2, e2⟩ := trod_i (hf 2 _ rfl)
      obtain ⟨a3, e3, s3⟩ := trod_str (hf 3 _ rfl)
      exact ⟨⟨a0, a1, a2, a3⟩, fun b off hc => ⟨hc 0 _ (take1 e0), hc 1 _ (take1 e1), hc 2 _ (take1 e2), hc 3 _ (take1 e3), s3⟩⟩) h
theorem open_mapss {fuel : Nat} {cs : List Value} {x : DataW H × List MemPlace} (h : DataW.trod enc Tryz.prog W base spare held fuel 43 cs = some x) : ∃ v L, cs = [v] ∧ Sl mapE 3 W v L :=
  open_row ⟨0, [], []⟩ mapE 3 Tryz.underlying43 (by kernel_rfl) (by decide) (fun fuel cs x h hl => by
    obtain ⟨xs, n, _, _, _, hxl, hf⟩ := DataW.trod_struct Tryz.underlying50 h
    match xs, hxl with
    | [y0, y1, y2], _ =>
      obtain ⟨a0, e0⟩ := trod_i (hf 0 _ rfl)
      obtain ⟨v1, L1, e1, s1⟩ := open_strs' (hf 1 _ rfl)
      obtain ⟨v2, L2, e2, s2⟩ := open_strs' (hf 2 _ rfl)
      exact ⟨⟨a0, L1, L2⟩, fun b off hc => ⟨v1, v2, hc 0 _ (take1 e0), hc 1 _ (take1 e1), hc 2 _ (take1 e2), s1, s2⟩⟩) h
theorem open_meths {fuel : Nat} {cs : List Value} {x : DataW H × List MemPlace} (h : DataW.trod enc Tryz.prog W base spare held fuel 24 cs = some x) : ∃ v L, cs = [v] ∧ Sl methE 10 W v L :=
  open_row ⟨⟨#[]⟩, [], ⟨#[]⟩, false, false, 0, 0, [], [], []⟩ methE 10 Tryz.underlying24 (by kernel_rfl) (by decide) (fun fuel cs x h hl => by
    obtain ⟨xs, n, _, _, _, hxl, hf⟩ := DataW.trod_struct Tryz.underlying46 h
    match xs, hxl with
    | [y0, y1, y2, y3, y4, y5, y6, y7, y8, y9], _ =>
      obtain ⟨a0, e0, s0⟩ := trod_str (hf 0 _ rfl)
      obtain ⟨v1, L1, e1, s1⟩ := open_strs' (hf 1 _ rfl)
      obtain ⟨a2, e2, s2⟩ := trod_str (hf 2 _ rfl)
      obtain ⟨a3, e3⟩ := trod_bo (hf 3 _ rfl)
      obtain ⟨a4, e4⟩ := trod_bo (hf 4 _ rfl)
      obtain ⟨a5, e5⟩ := trod_i (hf 5 _ rfl)
      obtain ⟨a6, e6⟩ := trod_i (hf 6 _ rfl)
      obtain ⟨v7, L7, e7, s7⟩ := open_inss (hf 7 _ rfl)
      obtain ⟨v8, L8, e8, s8⟩ := open_mapss (hf 8 _ rfl)
      obtain ⟨v9, L9, e9, s9⟩ := open_traps (hf 9 _ rfl)
      refine ⟨⟨a0, L1, a2, a3, a4, a5, a6, L7, L8, L9⟩, fun b off hc => ⟨v1, v7, v8, v9, ⟨s1, s7, s8, s9, s0, s2⟩, fun j hj => ?_⟩⟩
      have hh : ∀ j u, cs[j]? = some u → (methCells v1 v7 v8 v9 ⟨a0, L1, a2, a3, a4, a5, a6, L7, L8, L9⟩)[j]? = some u → W.cell? ⟨b, off + j, none⟩ = (methCells v1 v7 v8 v9 ⟨a0, L1, a2, a3, a4, a5, a6, L7, L8, L9⟩)[j]? := fun j u h1 h2 => by rw [h2]; exact hc j u h1
      match j, hj with
      | 0, _ => exact hh 0 _ (take1 e0) rfl
      | 1, _ => exact hh 1 _ (take1 e1) rfl
      | 2, _ => exact hh 2 _ (take1 e2) rfl
      | 3, _ => exact hh 3 _ (take1 e3) rfl
      | 4, _ => exact hh 4 _ (take1 e4) rfl
      | 5, _ => exact hh 5 _ (take1 e5) rfl
      | 6, _ => exact hh 6 _ (take1 e6) rfl
      | 7, _ => exact hh 7 _ (take1 e7) rfl
      | 8, _ => exact hh 8 _ (take1 e8) rfl
      | 9, _ => exact hh 9 _ (take1 e9) rfl) h
/-- A class that came in by value. -/
theorem open_cls {r : Reach} {b0 : Nat} {v : Value} {d : DataW H} {p : List MemPlace} (hv : Value.okWide Tryz.prog W r b0 26 v) (h : DataW.Trod enc Tryz.prog W base spare held 26 v d p) :
    ∃ v3 v4 v5 c, v = clsVal v3 v4 v5 c ∧ ClsV W v3 v4 v5 c := by
  obtain ⟨cs, rfl, hsz⟩ := WideShapes.okWide_struct Tryz.underlying26 hv
  have h6 : cs.size = 6 := hsz.trans (by kernel_rfl)
  obtain ⟨fuel, hf0⟩ := h
  obtain ⟨xs, n, _, _, _, hxl, hf⟩ := DataW.trod_struct Tryz.underlying26 hf0
  match xs, hxl with
  | [y0, y1, y2, y3, y4, y5], _ =>
    obtain ⟨a0, e0, s0⟩ := trod_str (hf 0 _ rfl)
    obtain ⟨a1, e1, s1⟩ := trod_str (hf 1 _ rfl)
    obtain ⟨a2, e2⟩ := trod_bo (hf 2 _ rfl)
    obtain ⟨v3, L3, e3, s3⟩ := open_strs' (hf 3 _ rfl)
    obtain ⟨v4, L4, e4, s4⟩ := open_fields (hf 4 _ rfl)
    obtain ⟨v5, L5, e5, s5⟩ := open_meths (hf 5 _ rfl)
    refine ⟨v3, v4, v5, ⟨a0, a1, a2, L3, L4, L5⟩, ?_, ⟨s3, s4, s5, s0, s1⟩⟩
    unfold clsVal
    congr 1
    obtain ⟨l⟩ := cs
    match l, h6 with
    | [w0, w1, w2, w3, w4, w5], _ =>
      have f0 := take1 e0
      have f1 := take1 e1
      have f2 := take1 e2
      have f3 := take1 e3
      have f4 := take1 e4
      have f5 := take1 e5
      simp [Value.cells] at f0 f1 f2 f3 f4 f5
      simp [f0, f1, f2, f3, f4, f5]
end
end Fil
end Go.Proofs.YtjblmgdjaaeedaaGreat
