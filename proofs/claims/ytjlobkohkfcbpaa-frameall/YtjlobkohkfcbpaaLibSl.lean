/- A slice of elements that are known ('Sl E size w v l'), and how one that came in is opened (names no type of a program but through its variables). -/
import Derived.Test.YtjlobkohkfcbpaaLibMem
import Derived.OpenShut
import Derived.Lib.SmallJoins
import Derived.Deep.Slices
namespace Go.Proofs.Ytjlobkohkfcbpaa
namespace Mem
open Go.RowKit
set_option linter.unusedVariables false
set_option linter.unusedSimpArgs false
set_option maxRecDepth 100000

/-- The slice v reads as l, each element 'size' cells of which E tells. -/
def Sl {α : Type} (E : World → Nat → Nat → α → Prop) (size : Nat) (w : World) (v : Value) (l : List α) : Prop :=
  ∃ a c, v = .slice a l.length c ∧ l.length ≤ c ∧ c ≤ maxLen ∧ (a = none → c = 0) ∧
    (0 < l.length → ∃ b off, a = some ⟨b, off, none⟩ ∧ b < w.heap.size ∧ ∀ i (h : i < l.length), E w b (off + i * size) l[i])
def Stable {α : Type} (E : World → Nat → Nat → α → Prop) : Prop := ∀ w w' b off x, E w b off x → Below w.heap.size w w' → E w' b off x
theorem Sl.later {α : Type} {E : World → Nat → Nat → α → Prop} (hE : Stable E) {size : Nat} {w w' : World} {v : Value} {l : List α} (h : Sl E size w v l) (hb : Below w.heap.size w w') : Sl E size w' v l := by
  obtain ⟨a, c, h1, h2, h3, h4, h5⟩ := h
  refine ⟨a, c, h1, h2, h3, h4, fun h0 => ?_⟩
  obtain ⟨b, off, e, hlt, hx⟩ := h5 h0
  exact ⟨b, off, e, Nat.lt_of_lt_of_le hlt hb.size, fun i hi => hE _ _ _ _ _ (hx i hi) hb⟩
theorem Sl.none {α : Type} (E : World → Nat → Nat → α → Prop) (size : Nat) (w : World) : Sl E size w (.slice .none 0 0) ([] : List α) :=
  ⟨.none, 0, rfl, Nat.le_refl _, Nat.zero_le _, fun _ => rfl, fun h => absurd h (by simp)⟩
theorem slot_none {w : World} {a : Addr} {v : Value} (h : w.cell? a = some v) : a.spot = none := by
  cases hs : a.spot with
  | none => rfl
  | some s =>
    unfold World.cell? at h
    split at h
    · simp [hs] at h
    · cases h
theorem add_two (a : Addr) (i j : Nat) : (a.add i).add j = a.add (i + j) := by
  obtain ⟨b, off, sp⟩ := a
  simp only [Addr.add]
  by_cases hi : i = 0 <;> by_cases hj : j = 0 <;> simp_all <;> omega
section
variable {H : Type} {enc : TypeId × Value → H} {W : World} {base : Nat} {spare : Nat → Bool} {held : Bool}
theorem open_row {α : Type} (dflt : α) (E : World → Nat → Nat → α → Prop) (size : Nat) {t e : TypeId} (ht : Try.prog.underlying t = some (.slice e)) (hc : Try.prog.cellsOf e = size) (hpos : 0 < size)
    (each : ∀ fuel cs x, DataW.trod enc Try.prog W base spare held fuel e cs = some x → cs.length = size → ∃ q : α, ∀ b off, (∀ j u, cs[j]? = some u → W.cell? ⟨b, off + j, none⟩ = some u) → E W b off q)
    {fuel : Nat} {cs : List Value} {x : DataW H × List MemPlace} (h : DataW.trod enc Try.prog W base spare held fuel t cs = some x) :
    ∃ v L, cs = [v] ∧ Sl E size W v L := by
  rcases Deep.open_slice ht h with ⟨rfl, _⟩ | ⟨a, len, cap, m, n, D, Pl, rfl, _, hl, hm, hmm, _, hx⟩
  · exact ⟨_, [], rfl, Sl.none _ _ _⟩
  · have hlm : len ≤ m := by rw [hmm]; split <;> omega
    rw [hc] at hx
    have eachi : ∀ i, i < len → ∃ q : α, (∃ v0, W.cell? (a.add (i * size)) = some v0) ∧ ∀ b off, a = ⟨b, off, none⟩ → E W b (off + i * size) q := by
      intro i hi
      obtain ⟨cs', h1, h2⟩ := hx i (by omega)
      obtain ⟨_, hlen, hcell⟩ := World.cells?_some h1
      obtain ⟨q, hq⟩ := each _ _ _ h2 hlen
      have h00 := hcell 0 (by omega)
      rw [add_two, Nat.add_zero, List.getElem?_eq_getElem (show 0 < cs'.length by omega)] at h00
      refine ⟨q, ⟨_, h00⟩, fun b off e => ?_⟩
      subst e
      refine hq b (off + i * size) (fun j u hj => ?_)
      have hj' : j < cs'.length := (List.getElem?_eq_some_iff.1 hj).1
      have := hcell j (by omega)
      rw [add_two, Addr.add_lit] at this
      rw [Nat.add_assoc, this]
      exact hj
    haveI : Inhabited α := ⟨dflt⟩
    obtain ⟨q, hq⟩ := Deep.choose_lt eachi
    refine ⟨_, (List.range len).map q, rfl, some a, cap, by simp, by simpa using hl, hm, fun e => (by cases e), fun h0 => ?_⟩
    have h0' : 0 < len := by simpa using h0
    obtain ⟨⟨v0, c0⟩, _⟩ := hq 0 h0'
    have hs := slot_none c0
    obtain ⟨b, off, sp⟩ := a
    obtain rfl : sp = none := by simpa [Addr.add] using hs
    rw [Nat.zero_mul, Addr.add_lit] at c0
    refine ⟨b, off, rfl, World.block_lt_of_cell? W _ c0, fun i hi => ?_⟩
    have hi' : i < len := by simpa using hi
    simp only [List.getElem_map, List.getElem_range]
    exact (hq i hi').2 b off rfl
theorem trod_i {fuel : Nat} {cs : List Value} {x : DataW H × List MemPlace} (h : DataW.trod enc Try.prog W base spare held fuel 3 cs = some x) : ∃ n : Int, cs = [.int .i64 n] ∧ -9223372036854775808 ≤ n ∧ n ≤ 9223372036854775807 := by
  obtain ⟨n, e, _, hw⟩ := DataW.trod_int Try.underlying3 h
  exact ⟨n, e, bounds_i64 hw⟩
theorem take1 {cs : List Value} {j : Nat} {v : Value} (h : (cs.drop j).take 1 = [v]) : cs[j]? = some v := by
  have := congrArg (fun l => l[0]?) h
  simpa using this
end
/-- An int. -/
def intE (w : World) (b off : Nat) (x : Int) : Prop := w.cell? ⟨b, off, none⟩ = some (.int .i64 x) ∧ -9223372036854775808 ≤ x ∧ x ≤ 9223372036854775807
theorem intE_stable : Stable intE := fun _ _ _ _ _ h hb => ⟨cellOn h.1 hb, h.2⟩
end Mem
end Go.Proofs.Ytjlobkohkfcbpaa
