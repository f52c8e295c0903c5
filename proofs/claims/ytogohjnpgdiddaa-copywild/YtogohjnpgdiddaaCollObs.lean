/- A slice of the laws' own objects, in memory. -/
import Derived.Test.YtogohjnpgdiddaaLibSl
import Derived.Test.YtogohjnpgdiddaaCollNum
import Derived.Test.YtogohjnpgdiddaaHeapRow
namespace Go.Proofs.Ytogohjnpgdiddaa
namespace Coll
open Mem Heap
open Go.RowKit
set_option linter.unusedVariables false
set_option linter.unusedSimpArgs false
set_option maxRecDepth 100000

/-- An object of a law: any kind, any words. -/
structure Nv where
  k : Int
  ws : List Int
def obE (w : World) (b off : Nat) (o : Nv) : Prop := w.cell? ⟨b, off, none⟩ = some (.int .i64 o.k) ∧ (-9223372036854775808 ≤ o.k ∧ o.k ≤ 9223372036854775807) ∧ ∃ v, w.cell? ⟨b, off + 1, none⟩ = some v ∧ Sl intE 1 w v o.ws
theorem obE_stable : Stable obE := fun _ _ _ _ _ ⟨h1, h2, v, h3, h4⟩ hb => ⟨cellOn h1 hb, h2, v, cellOn h3 hb, h4.later intE_stable hb⟩
section
variable {H : Type} {enc : TypeId × Value → H} {W : World} {base : Nat} {spare : Nat → Bool} {held : Bool}
theorem open_ints' {fuel : Nat} {cs : List Value} {x : DataW H × List MemPlace} (h : DataW.trod enc Try.prog W base spare held fuel 23 cs = some x) : ∃ v L, cs = [v] ∧ Sl intE 1 W v L :=
  open_row 0 intE 1 Try.underlying23 (by kernel_rfl) (by decide) (fun fuel cs x h hl => by
    obtain ⟨s, rfl, hs⟩ := trod_i h
    exact ⟨s, fun b off hc => ⟨hc 0 _ rfl, hs⟩⟩) h
theorem open_obs {fuel : Nat} {cs : List Value} {x : DataW H × List MemPlace} (h : DataW.trod enc Try.prog W base spare held fuel 22 cs = some x) : ∃ v L, cs = [v] ∧ Sl obE 2 W v L :=
  open_row ⟨0, []⟩ obE 2 Try.underlying22 (by kernel_rfl) (by decide) (fun fuel cs x h hl => by
    obtain ⟨xs, n, _, _, _, hxl, hf⟩ := DataW.trod_struct Try.underlying36 h
    match xs, hxl with
    | [y0, y1], _ =>
      obtain ⟨a0, e0, s0⟩ := trod_i (hf 0 _ rfl)
      obtain ⟨v1, L1, e1, s1⟩ := open_ints' (hf 1 _ rfl)
      exact ⟨⟨a0, L1⟩, fun b off hc => ⟨hc 0 _ (take1 e0), s0, v1, hc 1 _ (take1 e1), s1⟩⟩) h
end
/-- What a slice of ints reads as. -/
theorem sl_reads {w : World} {v : Value} {xs : List Int} (h : Sl intE 1 w v xs) : ∃ a c, v = .slice a xs.length c ∧ Reads .i64 w a xs.length c xs ∧ ∀ x ∈ xs, -9223372036854775808 ≤ x ∧ x ≤ 9223372036854775807 := by
  obtain ⟨a, c, rfl, h2, h3, h4, h5⟩ := h
  refine ⟨a, c, rfl, ⟨rfl, h2, h3, fun e => ?_, fun h0 => ?_⟩, fun x hx => ?_⟩
  · have := h4 e; omega
  · obtain ⟨b, off, rfl, _, hx⟩ := h5 h0
    refine ⟨b, off, rfl, fun i hi => ?_⟩
    have := (hx i hi).1
    rw [Nat.mul_one] at this
    rw [this]
    simp [List.getD, hi]
  · obtain ⟨i, hi, rfl⟩ := List.getElem_of_mem hx
    obtain ⟨b, off, _, _, hx⟩ := h5 (by omega)
    exact (hx i hi).2
/-- An owned row of ints reads so. -/
theorem own_ints {w : World} {B : Nat} {v : Value} {xs : List Int} (h : w.ownsRow B 3 1 v xs.length (xs.map (Value.int .i64))) (hb : ∀ x ∈ xs, -9223372036854775808 ≤ x ∧ x ≤ 9223372036854775807) : Sl intE 1 w v xs := by
  obtain ⟨a, c, rfl, hr⟩ := Reads.own h
  refine ⟨a, c, rfl, hr.cap, hr.max, fun e => (hr.nil e).2, fun h0 => ?_⟩
  obtain ⟨b, off, e, hc⟩ := hr.cells h0
  refine ⟨b, off, e, World.block_lt_of_cell? w _ (hc 0 h0), fun i hi => ?_⟩
  rw [Nat.mul_one]
  refine ⟨?_, hb _ (List.getElem_mem hi)⟩
  rw [hc i hi]
  simp [List.getD, hi]
/-- An object by numbers as one of a law. -/
def toV (o : No) : Nv := ⟨(o.k : Int), o.ws.map fun (x : Nat) => (x : Int)⟩
/-- One number from nought below m. -/
def modN (x : Int) (m : Nat) : Nat := ((x.tmod m + m).tmod m).toNat
theorem mod_facts (x : Int) (n : Nat) (hn : 0 < n) (h64 : n ≤ 1000000) (hx : -9223372036854775808 ≤ x ∧ x ≤ 9223372036854775807) : (wrap64 (x.tmod n + n)).tmod n = (modN x n : Int) ∧ IntKind.i64.wrap (x.tmod n + n) = x.tmod n + n ∧ (x.tmod n + n).tmod n = (modN x n : Int) ∧ modN x n < n ∧ (-(n : Int) < x.tmod n ∧ x.tmod n < n) := by
  have h1 : -(n : Int) < x.tmod n := by
    have := Int.lt_tmod_of_pos x (show (0 : Int) < n by omega)
    omega
  have h2 : x.tmod n < n := Int.tmod_lt_of_pos x (by omega)
  have hw : wrap64 (x.tmod n + n) = x.tmod n + n := by unfold wrap64; omega
  have h3 : 0 ≤ (x.tmod n + n).tmod n := Int.tmod_nonneg _ (by omega)
  have h4 : (x.tmod n + n).tmod n < n := Int.tmod_lt_of_pos _ (by omega)
  unfold modN
  refine ⟨?_, ?_, ?_, ?_, h1, h2⟩
  · rw [hw]; omega
  · rw [IntKind.wrap_i64]; omega
  · omega
  · omega
/-- Objects that are not too many; what they name is there. -/
def cutO (n : Nat) (o : Nv) : No := ⟨modN o.k 50, (o.ws.take 5).map fun x => modN x (n + 1)⟩
def cutN (L : List Nv) : List No := (L.take 20).map (cutO (min L.length 20))
theorem cut_len (L : List Nv) : (cutN L).length = min L.length 20 := by simp [cutN]; omega
theorem cut_ok (L : List Nv) : NOk (cutN L) ∧ (∀ o ∈ cutN L, o.k < 50) ∧ (∀ o ∈ cutN L, o.ws.length ≤ 5) := by
  have hk : ∀ x : Int, modN x 50 < 50 := fun x => by
    unfold modN
    have := Int.tmod_lt_of_pos (x.tmod ((50 : Nat) : Int) + ((50 : Nat) : Int)) (show (0 : Int) < ((50 : Nat) : Int) by omega)
    omega
  have hw : ∀ (x : Int) (n : Nat), modN x (n + 1) ≤ n := fun x n => by
    unfold modN
    have := Int.tmod_lt_of_pos (x.tmod ((n + 1 : Nat) : Int) + ((n + 1 : Nat) : Int)) (show (0 : Int) < ((n + 1 : Nat) : Int) by omega)
    omega
  refine ⟨⟨?_, ?_, ?_⟩, ?_, ?_⟩
  · intro o ho; simp only [cutN, List.mem_map] at ho; obtain ⟨q, _, rfl⟩ := ho; have := hk q.k; simp only [cutO]; omega
  · intro o ho; simp only [cutN, List.mem_map] at ho; obtain ⟨q, _, rfl⟩ := ho; simp only [cutO, List.length_map, List.length_take]; omega
  · intro o ho x hx
    rw [cut_len]
    simp only [cutN, List.mem_map] at ho
    obtain ⟨q, _, rfl⟩ := ho
    simp only [cutO, List.mem_map] at hx
    obtain ⟨y, _, rfl⟩ := hx
    exact hw _ _
  · intro o ho; simp only [cutN, List.mem_map] at ho; obtain ⟨q, _, rfl⟩ := ho; exact hk q.k
  · intro o ho; simp only [cutN, List.mem_map] at ho; obtain ⟨q, _, rfl⟩ := ho; simp only [cutO, List.length_map, List.length_take]; omega
end Coll
end Go.Proofs.Ytogohjnpgdiddaa
