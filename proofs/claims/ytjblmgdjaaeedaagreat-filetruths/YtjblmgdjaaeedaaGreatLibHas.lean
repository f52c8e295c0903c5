/- What is told of a slice of bytes that a call may read ('Has'), how it is carried on, and the laws of append and of conversions over it: no function of the program is named here. -/
import Derived.Test.YtjblmgdjaaeedaaGreatRows
import Derived.WalkKit
import Derived.WalkSpells
import Derived.WalkLawsBesides
import Derived.OpenShut
import Derived.Deep.AppendSrc
import Derived.Deep.AppendLies
import Derived.Lib.AppendStr
import Derived.Laws.BytesArg
import Derived.Laws.AppendOwnNone
namespace Go.Proofs.YtjblmgdjaaeedaaGreat
namespace Num
open Go.RowKit
set_option linter.unusedVariables false
set_option maxRecDepth 100000

def cellsOf (xs : List Int) : List Value := xs.map (Value.int .u8)
theorem cellsOf_length (xs : List Int) : (cellsOf xs).length = xs.length := by simp [cellsOf]
theorem cellsOf_append (xs ys : List Int) : cellsOf (xs ++ ys) = cellsOf xs ++ cellsOf ys := by simp [cellsOf]
theorem cellsOf_one (xs : List Int) : ∀ u ∈ cellsOf xs, u.oneCell' = true := ints_oneCell .u8 xs

/-- The slice (a, n, c) reads as the bytes xs in w. -/
structure Has (w : World) (a : Option Addr) (n c : Nat) (xs : List Int) : Prop where
  len : xs.length = n
  cap : n ≤ c
  max : c ≤ maxLen
  nil : a = none → n = 0 ∧ c = 0
  cells : 0 < n → ∃ b off, a = some ⟨b, off, none⟩ ∧ b < w.heap.size ∧ ∀ i, i < n → w.cell? ⟨b, off + i, none⟩ = some (.int .u8 (xs.getD i 0))

theorem Has.none (w : World) : Has w .none 0 0 [] := ⟨rfl, Nat.le_refl _, Nat.zero_le _, fun _ => ⟨rfl, rfl⟩, fun h => absurd h (by omega)⟩

theorem Has.later {w w' : World} {a : Option Addr} {n c : Nat} {xs : List Int} (h : Has w a n c xs) (hb : Below w.heap.size w w') : Has w' a n c xs :=
  ⟨h.len, h.cap, h.max, h.nil, fun h0 => by
    obtain ⟨b, off, e, hlt, hc⟩ := h.cells h0
    exact ⟨b, off, e, Nat.lt_of_lt_of_le hlt hb.size, fun i hi => (hb.cell (p := ⟨b, off + i, Option.none⟩) hlt).trans (hc i hi)⟩⟩

theorem Has.news {w : World} {a : Option Addr} {n c : Nat} {xs : List Int} (h : Has w a n c xs) : ∀ ad, a = some ad → ∀ j u, (cellsOf xs)[j]? = some u → w.cell? (ad.add j) = some u := by
  intro ad had j u hu
  have hj : j < xs.length := by
    have := (List.getElem?_eq_some_iff.1 hu).1
    simpa [cellsOf] using this
  obtain ⟨b, off, e, _, hc⟩ := h.cells (by have := h.len; omega)
  rw [e] at had
  obtain rfl := Option.some.inj had
  rw [Addr.add_lit, hc j (by rw [← h.len]; exact hj)]
  simp [cellsOf, List.getElem?_eq_getElem hj] at hu
  simp [List.getD, List.getElem?_eq_getElem hj, hu]

/-- A row that the call owns reads as its bytes. -/
theorem Has.own {w : World} {B g n cap : Nat} {xs : List Int} (h : w.ownsRow B 5 1 (.slice (some ⟨g, 0, .none⟩) n cap) n (cellsOf xs)) : Has w (some ⟨g, 0, .none⟩) n cap xs := by
  have hl := h.1
  rw [cellsOf_length, Nat.mul_one] at hl
  have hlt := (h.lt g rfl).2
  rcases h.2 with ⟨hv, _⟩ | ⟨g', cap', cur, hv, hb, hg, hnc, hcm, hcs, htake⟩
  · cases hv
  · simp only [Value.slice.injEq, Option.some.injEq, Addr.mk.injEq, and_true, true_and] at hv
    obtain ⟨rfl, rfl⟩ := hv
    refine ⟨hl, hnc, hcm, fun e => (by cases e), fun _ => ⟨g, 0, rfl, hlt, fun i hi => ?_⟩⟩
    have := h.cells (g := g) rfl i (.int .u8 (xs.getD i 0)) (by simp [cellsOf, List.getD, List.getElem?_eq_getElem (show i < xs.length by omega)])
    rwa [Addr.add_lit] at this

/-- A part of it. -/
theorem Has.drop {w : World} {b off n c : Nat} {xs : List Int} (h : Has w (some ⟨b, off, .none⟩) n c xs) (k : Nat) (hk : k ≤ n) : Has w (some ⟨b, off + k, .none⟩) (n - k) (c - k) (xs.drop k) := by
  refine ⟨by rw [List.length_drop, h.len], by have := h.cap; omega, by have := h.max; omega, fun e => (by cases e), fun h0 => ?_⟩
  obtain ⟨b', off', e, hlt, hc⟩ := h.cells (by omega)
  simp only [Option.some.injEq, Addr.mk.injEq, and_true] at e
  obtain ⟨rfl, rfl⟩ := e
  refine ⟨b, off + k, rfl, hlt, fun i hi => ?_⟩
  rw [Nat.add_assoc, hc (k + i) (by omega)]
  simp [List.getD]
theorem Has.take {w : World} {a : Option Addr} {n c : Nat} {xs : List Int} (h : Has w a n c xs) (k : Nat) (hk : k ≤ n) : Has w a k c (xs.take k) := by
  refine ⟨by rw [List.length_take, h.len]; omega, by have := h.cap; omega, h.max, fun e => by have := h.nil e; omega, fun h0 => ?_⟩
  obtain ⟨b, off, e, hlt, hc⟩ := h.cells (by omega)
  refine ⟨b, off, e, hlt, fun i hi => ?_⟩
  rw [hc i (by omega)]
  simp [List.getD, hi]

/-- A list that the text writes out: its own row. -/
theorem own_lit (w : World) (e : TypeId) (xs : List Int) (hx : xs.length ≤ maxLen) : (w.alloc (.cells (cellsOf xs).toArray e)).ownsRow w.heap.size e 1 (.slice (some ⟨w.heap.size, 0, .none⟩) xs.length xs.length) xs.length (cellsOf xs) :=
  ⟨by simp [cellsOf], .inr ⟨w.heap.size, xs.length, _, rfl, Nat.le_refl _, heap_alloc_new w _, Nat.le_refl _, hx, by simp [cellsOf], by simp [cellsOf, List.take_of_length_le]⟩⟩
theorem Has.lit (w : World) (xs : List Int) (hx : xs.length ≤ maxLen) : Has (w.alloc (.cells (cellsOf xs).toArray 5)) (some ⟨w.heap.size, 0, .none⟩) xs.length xs.length xs := Has.own (own_lit w _ xs hx)

/-- What is told of a slice of integers that came in: it is nil; or it leads to a row of 'cap' cells, the first 'len' its elements, each fitting its kind. -/
def IsRow (k : IntKind) (w : World) (a : Option Addr) (len cap : Nat) (zs : List Int) : Prop :=
  (a = .none ∧ len = 0 ∧ cap = 0 ∧ zs = []) ∨
  ∃ x, a = some x ∧ len ≤ cap ∧ cap ≤ maxLen ∧ zs.length = cap ∧ (∀ i, i < zs.length → w.cell? (x.add i) = some (.int k (zs.getD i 0))) ∧ ∀ n ∈ zs, (Lit.int k n).wf = true

theorem info8 : (Tryz.prog.info? 5).map (fun i => (i.zero, i.size, i.bytes)) = some (some (.int .u8 0), 1, 1) := by kernel_rfl
def Bytes (xs : List Int) : Prop := ∀ x ∈ xs, 0 ≤ x ∧ x ≤ 255
theorem drop_step {xs : List Int} {k : Nat} (hk : k < xs.length) : xs.drop k = xs.getD k 0 :: xs.drop (k + 1) := by
  rw [List.drop_eq_getElem_cons hk]
  simp [List.getD, List.getElem?_eq_getElem hk]
theorem getD_bd {xs : List Int} (h : Bytes xs) {k : Nat} (hk : k < xs.length) : 0 ≤ xs.getD k 0 ∧ xs.getD k 0 ≤ 255 := by
  have := h (xs[k]) (List.getElem_mem hk)
  simpa [List.getD, List.getElem?_eq_getElem hk] using this

/-- A text's bytes as numbers. -/
def nums (s : ByteArray) : List Int := s.data.toList.map fun b => (b.toNat : Int)
theorem nums_length (s : ByteArray) : (nums s).length = s.size := by rw [nums, List.length_map, Array.length_toList]; rfl
theorem nums_cells (s : ByteArray) : Lib.strCells s = cellsOf (nums s) := by simp [Lib.strCells, cellsOf, nums]
theorem nums_bytes (s : ByteArray) : Bytes (nums s) := by
  intro x hx
  obtain ⟨b, _, rfl⟩ := List.mem_map.1 hx
  have := b.toNat_lt
  omega
theorem str_nums (s : ByteArray) : strOfNums (nums s) = s := by
  have e : ((nums s).map fun n => UInt8.ofNat n.toNat) = s.data.toList := by
    rw [nums, List.map_map]
    conv => rhs; rw [← List.map_id s.data.toList]
    apply List.map_congr_left
    intro b _
    simp
  unfold strOfNums
  rw [e]
/-- 'string(b)'. -/
theorem Has.str {w : World} {a : Option Addr} {n c : Nat} {xs : List Int} (h : Has w a n c xs) : (convert 29 9 (.slice a n c)).run Tryz.prog w = .ok (.string (strOfNums xs)) w := by
  cases a with
  | none =>
    have h0 := (h.nil rfl).1
    obtain rfl : xs = [] := List.eq_nil_of_length_eq_zero (by rw [h.len]; exact h0)
    rw [run_convert_bytes_nil w 29 5 Tryz.underlying29 Tryz.underlying5 n c 9 Tryz.underlying9]
    rfl
  | some ad =>
    have hl : (loadCells ad n).run Tryz.prog w = .ok (xs.map (Value.int .u8)).toArray w := by
      have := run_loadCells_list (P := Tryz.prog) w ad (cellsOf xs) (h.news ad rfl)
      rw [cellsOf_length, h.len] at this
      exact this
    rw [run_convert_bytes_string w 29 9 5 _ n c Tryz.underlying29 Tryz.underlying5 Tryz.underlying9, run_bytesToString w ad n c xs hl, foldl_push_bytes]
    simp [strOfNums, ByteArray.empty, ByteArray.emptyWithCapacity]
    rfl
/-- 'append(b, s...)' onto an owned row that is not empty: the new value written out. -/
theorem wpList_str {P : Program} (w : World) {ops : Array Oper} {rest : List Oper} {o : Oper} {a : Act} {Q : Exit → Act → World → Prop} (hgd : o.guard = none) (sl x : Operand) (t u : TypeId)
    (ho : o.op = .call { callee := .builtin .append, args := #[sl, x], argTypes := #[t, u] })
    (base : Nat) (e : TypeId) (i : TypeInfo) (ht : P.underlying t = some (.slice e)) (hu : P.underlying u = some .string) (hi : P.info? e = some i) (hz : i.zero = some (.int .u8 0))
    (hsize : i.size = 1) (hby : i.bytes = 1)
    (v : Value) (n : Nat) (xs : List Int) (hs : a.eval sl = v) (hown : w.ownsRow base e 1 v n (cellsOf xs)) (s : ByteArray) (hx : a.eval x = .string s) (hn : 0 < n)
    (hbytes : n + s.size ≤ 140737488355328) (hbase : base ≤ w.heap.size)
    (h : ∀ g cap w', w'.ownsRow base e 1 (.slice (some ⟨g, 0, none⟩) (n + s.size) cap) (n + s.size) (cellsOf (xs ++ nums s)) → w.grownBy w' v.ownBlock → wpList P ops Q rest (a.put o.dst (.slice (some ⟨g, 0, none⟩) (n + s.size) cap)) w') : wpList P ops Q (o :: rest) a w := by
  refine Lib.wpList_append_own_string w hgd sl x t u ho base e i ht hu hi hz hsize hby v n (cellsOf xs) hs hown s hx (by unfold maxLen; omega) hbytes hbase ?_
  intro v' w' h2 h3 _
  obtain ⟨g, cap, rfl, _, _⟩ := h2.form (by omega)
  rw [nums_cells, ← cellsOf_append] at h2
  exact h g cap w' h2 h3

theorem IsRow.has {w : World} {a : Option Addr} {len cap : Nat} {z : List Int} (h : IsRow .u8 w a len cap z) : Has w a len cap (z.take len) ∧ Bytes (z.take len) := by
  rcases h with ⟨rfl, rfl, rfl, rfl⟩ | ⟨x, rfl, hl, hm, hz, hc, hw⟩
  · exact ⟨Has.none w, fun x hx => by simp at hx⟩
  · refine ⟨⟨by rw [List.length_take]; omega, hl, hm, fun e => (by cases e), fun h0 => ?_⟩, fun x hx => bounds_u8 (hw x (List.mem_of_mem_take hx))⟩
    obtain ⟨b, off, rfl, hcc⟩ := ints_at hc (by omega)
    refine ⟨b, off, rfl, World.block_lt_of_cell? w ⟨b, off + 0, .none⟩ (hcc 0 (by omega)), fun i hi => ?_⟩
    rw [hcc i (by omega)]
    simp [List.getD, hi]

theorem own_shape {w : World} {B n : Nat} {v : Value} {xs : List Int} (h : w.ownsRow B 5 1 v n (cellsOf xs)) : ∃ a c, v = .slice a n c ∧ Has w a n c xs := by
  have hl := h.1
  rw [cellsOf_length, Nat.mul_one] at hl
  rcases h.2 with ⟨rfl, rfl⟩ | ⟨g, cap, cur, rfl, _⟩
  · obtain rfl : xs = [] := List.eq_nil_of_length_eq_zero hl
    exact ⟨.none, 0, rfl, Has.none w⟩
  · exact ⟨_, cap, rfl, Has.own h⟩

/-- 'append(v, b...)', v nil or owned, b whatever bytes there are. -/
theorem wpList_has {P : Program} (w : World) {ops : Array Oper} {rest : List Oper} {o : Oper} {a : Act} {Q : Exit → Act → World → Prop} (hgd : o.guard = none) (s x : Operand) (t : TypeId)
    (ho : o.op = .call { callee := .builtin .append, args := #[s, x], argTypes := #[t, t] })
    (base : Nat) (i : TypeInfo) (ht : P.underlying t = some (.slice 5)) (hi : P.info? 5 = some i) (hz : i.zero = some (.int .u8 0)) (hsize : i.size = 1) (hby : i.bytes = 1)
    (v : Value) (n : Nat) (xs : List Int) (hs : a.eval s = v) (hown : w.ownsRow base 5 1 v n (cellsOf xs))
    (sa : Option Addr) (m c : Nat) (ys : List Int) (hx : a.eval x = .slice sa m c) (hH : Has w sa m c ys)
    (hbytes : n + m ≤ 140737488355328) (hbase : base ≤ w.heap.size)
    (h : ∀ a' c' w', w'.ownsRow base 5 1 (.slice a' (n + m) c') (n + m) (cellsOf (xs ++ ys)) → Has w' a' (n + m) c' (xs ++ ys) → w.grownBy w' v.ownBlock → wpList P ops Q rest (a.put o.dst (.slice a' (n + m) c')) w') :
    wpList P ops Q (o :: rest) a w := by
  cases sa with
  | none =>
    obtain ⟨rfl, rfl⟩ := hH.nil rfl
    obtain rfl : ys = [] := List.eq_nil_of_length_eq_zero hH.len
    obtain ⟨a', c', rfl, hh⟩ := own_shape hown
    refine wpList_append_own_none hgd s x t ho base 5 i 1 ht hi _ n _ hs hown hx ?_
    exact h a' c' w (by simpa using hown) (by simpa using hh) (World.grownBy.refl _ _)
  | some ad =>
    refine wpList_append_own w hgd s x t ho base 5 i (.int .u8 0) 1 1 ht hi hz hsize hby rfl (by decide) v n _ hs hown ad m c (cellsOf ys) hx (by rw [cellsOf_length, hH.len, Nat.mul_one]) (hH.news ad rfl) (cellsOf_one ys) (by unfold maxLen; omega) (by omega) hbase ?_
    intro v' w' h2 h3 _
    rw [← cellsOf_append] at h2
    obtain ⟨a', c', rfl, hh⟩ := own_shape h2
    exact h a' c' w' h2 hh h3

theorem bytes_append {a b : List Int} (ha : Bytes a) (hb : Bytes b) : Bytes (a ++ b) := fun x hx => by
  rcases List.mem_append.1 hx with h | h
  · exact ha x h
  · exact hb x h
theorem bytes_take {xs : List Int} (h : Bytes xs) (k : Nat) : Bytes (xs.take k) := fun x hx => h x (List.mem_of_mem_take hx)
theorem str_append (a b : List Int) : strOfNums (a ++ b) = strOfNums a ++ strOfNums b := by
  apply ByteArray.ext
  simp [strOfNums]

/-- A block that is known whole reads as its bytes. -/
theorem Has.block {w : World} {B : Nat} {xs : List Int} {fr : Nat × Nat} (hb : w.heap[B]? = some (.cells (cellsOf xs).toArray 5 fr)) (hx : xs.length ≤ maxLen) : Has w (some ⟨B, 0, .none⟩) xs.length xs.length xs := by
  refine ⟨rfl, Nat.le_refl _, hx, fun e => (by cases e), fun _ => ⟨B, 0, rfl, (Array.getElem?_eq_some_iff.1 hb).1, fun i hi => ?_⟩⟩
  rw [Nat.zero_add, cell_of_row w B i _ _ fr hb]
  simp [cellsOf, List.getD, List.getElem?_eq_getElem hi]
/-- '[]byte("..")' of a text that is written out: the block is marked behind its end, no cell of it turns. -/
theorem conv_mark (W : World) (g l c : Nat) (cs : Array Value) (fr : Nat × Nat) (h : W.heap[g]? = some (.cells cs 5 fr)) :
    (convert 29 29 (.slice (some ⟨g, 0, .none⟩) l c)).run Tryz.prog W = .ok (.slice (some ⟨g, 0, .none⟩) l c) (W.freeze ⟨g, cs.size, .none⟩ 1) := by
  have hs : W.shape? g = some (5, cs.size) := by simp [World.shape?, h]
  simp [convert, run_underlying Tryz.underlying29, run_underlying Tryz.underlying5, markStringish, hs]
theorem freeze_block (W : World) (g n : Nat) (cs : Array Value) (fr : Nat × Nat) (h : W.heap[g]? = some (.cells cs 5 fr)) : ∃ fr', (W.freeze ⟨g, n, .none⟩ 1).heap[g]? = some (.cells cs 5 fr') := by
  unfold World.freeze
  rw [if_neg (by decide)]
  show ∃ fr', (W.heap.modify g _)[g]? = _
  rw [Array.getElem?_modify, if_pos rfl, h]
  exact ⟨_, rfl⟩
theorem freeze_below (B : Nat) (W : World) (g n : Nat) (hB : B ≤ g) : Below B W (W.freeze ⟨g, n, .none⟩ 1) := by
  unfold World.freeze
  rw [if_neg (by decide)]
  refine ⟨rfl, rfl, rfl, by simp, fun k hk => ?_⟩
  show (W.heap.modify g _)[k]? = _
  rw [Array.getElem?_modify, if_neg (by omega)]

theorem ret_int {k : IntKind} {a b : Int} (h : b = a) : Ending.returned (.int k a) = .returned (.int k b) := by rw [h]
end Num
end Go.Proofs.YtjblmgdjaaeedaaGreat
