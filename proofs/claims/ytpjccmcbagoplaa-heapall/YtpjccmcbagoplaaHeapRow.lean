/- A slice of numbers that came in; where objects begin, in their order. -/
import Derived.Test.YtpjccmcbagoplaaHeapBegun
namespace Go.Proofs.Ytpjccmcbagoplaa
namespace Heap
open Mem
open Go.RowKit
set_option linter.unusedVariables false
set_option linter.unusedSimpArgs false
set_option maxRecDepth 100000

/-- What is told of a slice of integers that came in: it is nil; or it leads to a row of 'cap' cells, the first 'len' its elements, each fitting its kind. -/
def IsRow (k : IntKind) (w : World) (a : Option Addr) (len cap : Nat) (zs : List Int) : Prop :=
  (a = .none ∧ len = 0 ∧ cap = 0 ∧ zs = []) ∨
  ∃ x, a = some x ∧ len ≤ cap ∧ cap ≤ maxLen ∧ zs.length = cap ∧ (∀ i, i < zs.length → w.cell? (x.add i) = some (.int k (zs.getD i 0))) ∧ ∀ n ∈ zs, (Lit.int k n).wf = true
theorem spot_none {w : World} {a : Addr} {v : Value} (h : w.cell? a = some v) : a.spot = none := by
  cases hs : a.spot with
  | none => rfl
  | some s =>
    unfold World.cell? at h
    split at h
    · simp [hs] at h
    · cases h
/-- Its first m elements. -/
theorem IsRow.reads {k : IntKind} {w : World} {a : Option Addr} {len cap : Nat} {z : List Int} (h : IsRow k w a len cap z) (m : Nat) (hm : m ≤ len) : Reads k w a m cap (z.take m) ∧ ∀ x ∈ z.take m, (Lit.int k x).wf = true := by
  rcases h with ⟨rfl, rfl, rfl, rfl⟩ | ⟨x, rfl, hl, hc, hz, hx, hwf⟩
  · obtain rfl : m = 0 := by omega
    exact ⟨Reads.none _ _, fun x hx => by simp at hx⟩
  · refine ⟨⟨by rw [List.length_take]; omega, by omega, hc, fun e => (by cases e), fun h0 => ?_⟩, fun n hn => hwf n (List.mem_of_mem_take hn)⟩
    obtain ⟨b, off, rfl, hcc⟩ := ints_at hx (by omega)
    refine ⟨b, off, rfl, fun i hi => ?_⟩
    rw [hcc i (by omega)]
    simp [List.getD, hi]
/-- 'append([]int32(nil), b...)', b whatever numbers there are. -/
theorem wpList_reads {P : Program} (w : World) {ops : Array Oper} {rest : List Oper} {o : Oper} {a : Act} {Q : Exit → Act → World → Prop} (hgd : o.guard = none) (s x : Operand) (t : TypeId)
    (ho : o.op = .call { callee := .builtin .append, args := #[s, x], argTypes := #[t, t] })
    (e : TypeId) (i : TypeInfo) (z : Value) (k : IntKind) (bytes : Nat) (ht : P.underlying t = some (.slice e)) (hi : P.info? e = some i) (hz : i.zero = some z) (hsize : i.size = 1) (hby : i.bytes = bytes) (hzs : z.cells.size = 1)
    (hs : a.eval s = .slice none 0 0) (sa : Option Addr) (m c : Nat) (ys : List Int) (hx : a.eval x = .slice sa m c) (hH : Reads k w sa m c ys) (hm : m ≤ 1000000000000) (hbytes : m * bytes ≤ 140737488355328)
    (h : ∀ v' w', w'.ownsRow w.heap.size e 1 v' m (ys.map (Value.int k)) → Below w.heap.size w w' → wpList P ops Q rest (a.put o.dst v') w') :
    wpList P ops Q (o :: rest) a w := by
  cases sa with
  | none =>
    obtain ⟨rfl, rfl⟩ := hH.nil rfl
    obtain rfl : ys = [] := List.eq_nil_of_length_eq_zero hH.len
    refine wpList_append_own_none hgd s x t ho w.heap.size e i 1 ht hi _ 0 [] hs (World.ownsRow_nil _ _ _ _) hx ?_
    exact h _ w (World.ownsRow_nil _ _ _ _) (Below.refl _ _)
  | some ad =>
    refine wpList_append_own w hgd s x t ho w.heap.size e i z 1 bytes ht hi hz hsize hby hzs (by decide) (.slice none 0 0) 0 [] hs (World.ownsRow_nil _ _ _ _) ad m c (ys.map (Value.int k)) hx (by rw [List.length_map, hH.len, Nat.mul_one]) (hH.news ad rfl) (one_ints k ys) (by unfold maxLen; omega) (by rw [Nat.zero_add]; exact hbytes) (Nat.le_refl _) ?_
    intro v' w' h2 h3 _
    rw [List.nil_append, Nat.zero_add] at h2
    exact h v' w' h2 ((Below.refl _ _).grown h3 (Nat.le_refl _) (fun k e => by cases e))
theorem IsRow.max {k : IntKind} {w : World} {a : Option Addr} {len cap : Nat} {z : List Int} (h : IsRow k w a len cap z) : len ≤ cap ∧ cap ≤ maxLen := by
  rcases h with ⟨rfl, rfl, rfl, rfl⟩ | ⟨x, rfl, hl, hc, _⟩
  · exact ⟨Nat.le_refl _, Nat.zero_le _⟩
  · exact ⟨hl, hc⟩
theorem is32_wf {x : Int} (h : (Lit.int .i32 x).wf = true) : Is32 x := bounds_i32 h
/-- The places of objects. -/
def placesP (os : List Ob) : List Int := (List.range os.length).map fun i => ((wordsO (os.take i)).length : Int)
theorem places_snoc (os : List Ob) (o : Ob) : placesP (os ++ [o]) = placesP os ++ [((wordsO os).length : Int)] := by
  unfold placesP
  rw [List.length_append, List.length_singleton, List.range_succ, List.map_append]
  congr 1
  · apply List.map_congr_left
    intro i hi
    rw [List.take_append_of_le_length (by have := List.mem_range.1 hi; omega)]
  · simp
theorem places_len (os : List Ob) : (placesP os).length = os.length := by simp [placesP]
theorem places_at (os : List Ob) (k : Nat) (hk : k < os.length) : (placesP os)[k]? = some ((wordsO (os.take k)).length : Int) := by
  simp [placesP, hk]
theorem split_at (os : List Ob) (k : Nat) (hk : k < os.length) : os = os.take k ++ os[k] :: os.drop (k + 1) := by
  rw [← List.drop_eq_getElem_cons hk, List.take_append_drop]
theorem two_len (os : List Ob) : 2 * os.length ≤ (wordsO os).length := by
  induction os with
  | nil => simp
  | cons o r ih => rw [wordsO_cons, List.length_append, obW_len, List.length_cons]; omega
theorem at_facts (os : List Ob) (k : Nat) (hk : k < os.length) : hasO os ((wordsO (os.take k)).length : Int) = true ∧ kindO os ((wordsO (os.take k)).length : Int) = (os[k].k : Int) ∧ lenO os ((wordsO (os.take k)).length : Int) = (os[k].v.length : Int) ∧
    (wordsO os)[(wordsO (os.take k)).length]? = some (os[k].k : Int) ∧ (wordsO os)[(wordsO (os.take k)).length + 1]? = some (os[k].v.length : Int) ∧ (wordsO (os.take k)).length + 1 < (wordsO os).length := by
  have hsp := split_at os k hk
  generalize os.take k = p at *
  generalize os[k] = o at *
  generalize os.drop (k + 1) = q at *
  subst hsp
  have h0 := words_at p o q 0 (by omega)
  have h1 := words_at p o q 1 (by omega)
  rw [Nat.add_zero] at h0
  exact ⟨has_at _ _ _, kind_at _ _ _, len_at _ _ _, h0, h1, by rw [words_len]; omega⟩
theorem infoN : (Try.prog.info? 3).map (fun i => (i.zero, i.size, i.bytes)) = some (some (.int .i64 0), 1, 8) := by kernel_rfl
theorem news_one (w : World) (v : Value) (T : Nat) : ∀ j u, ([v] : List Value)[j]? = some u → (w.alloc (.cells #[v] T)).cell? ((⟨w.heap.size, 0, none⟩ : Addr).add j) = some u := by
  intro j u hu
  cases j with
  | zero =>
    rw [Addr.add_lit, blk_cell (blk_new w #[v] T)]
    simpa using hu
  | succ j => simp at hu
theorem reads_of {k : IntKind} {w : World} {B e n c : Nat} {a : Option Addr} {xs : List Int} (h : w.ownsRow B e 1 (.slice a n c) n (xs.map (Value.int k))) : Reads k w a n c xs := by
  obtain ⟨a', c', e', hr⟩ := Reads.own h
  simp only [Value.slice.injEq, true_and] at e'
  obtain ⟨rfl, rfl⟩ := e'
  exact hr
end Heap
end Go.Proofs.Ytpjccmcbagoplaa
