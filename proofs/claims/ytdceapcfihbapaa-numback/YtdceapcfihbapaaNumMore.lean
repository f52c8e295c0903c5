/- The laws' Short and Cut; 'append' of whatever bytes onto nil or onto an owned row. -/
import Derived.Test.YtdceapcfihbapaaNumRef
import Derived.Laws.AppendOwnNone
import Derived.OpenShut
namespace Go.Proofs.Ytdceapcfihbapaa
namespace Num
open Go.RowKit
set_option linter.unusedVariables false

theorem cut_text (s : ByteArray) : ∃ t : ByteArray, t.size ≤ 100 ∧ ((100 < s.size ∧ s.extract 0 100 = t) ∨ (s.size ≤ 100 ∧ t = s)) := by
  by_cases h : 100 < s.size
  · exact ⟨s.extract 0 100, by simp; omega, .inl ⟨h, rfl⟩⟩
  · exact ⟨s, by omega, .inr ⟨by omega, rfl⟩⟩

theorem IsRow.has {w : World} {a : Option Addr} {len cap : Nat} {z : List Int} (h : IsRow .u8 w a len cap z) : Has w a len cap (z.take len) ∧ Bytes (z.take len) := by
  rcases h with ⟨rfl, rfl, rfl, rfl⟩ | ⟨x, rfl, hl, hm, hz, hc, hw⟩
  · exact ⟨Has.none w, fun x hx => by simp at hx⟩
  · refine ⟨⟨by rw [List.length_take]; omega, hl, hm, fun e => (by cases e), fun h0 => ?_⟩, fun x hx => bounds_u8 (hw x (List.mem_of_mem_take hx))⟩
    obtain ⟨b, off, rfl, hcc⟩ := ints_at hc (by omega)
    refine ⟨b, off, rfl, World.block_lt_of_cell? w ⟨b, off + 0, .none⟩ (hcc 0 (by omega)), fun i hi => ?_⟩
    rw [hcc i (by omega)]
    simp [List.getD, hi]

theorem short_any (a : Option Addr) (n c : Nat) (xs : List Int) (w : World) (h : Has w a n c xs) :
    Calls Try.prog 8 #[.slice a n c, .int .i64 20] w fun e w' => e = .returned (.slice a (min n 20) c) ∧ w = w' := by
  have hc := h.cap
  have hm := h.max
  unfold maxLen at hm
  by_cases h20 : 20 < n
  · obtain ⟨b, off, rfl, _, _⟩ := h.cells (by omega)
    have e : min n 20 = 20 := by omega
    rw [e]
    clear e
    go_enter Try.func8, Try.ntmps8
    go_wp2_with fail
    go_ret
    exact ⟨rfl, rfl⟩
  · have e : min n 20 = n := by omega
    rw [e]
    clear e
    go_enter Try.func8, Try.ntmps8
    go_wp2_with fail
    go_ret
    exact ⟨rfl, rfl⟩

theorem cut_any (s t : ByteArray) (w : World) (hs : s.size ≤ maxLen) (ht : (100 < s.size ∧ s.extract 0 100 = t) ∨ (s.size ≤ 100 ∧ t = s)) :
    Calls Try.prog 9 #[.string s, .int .i64 100] w fun e w' => e = .returned (.string t) ∧ w = w' := by
  unfold maxLen at hs
  rcases ht with ⟨h, ht⟩ | ⟨h, rfl⟩
  · have HT : Hid _ := ht
    clear ht
    go_enter Try.func9, Try.ntmps9
    go_wp2_with fail
    go_ret
    exact ⟨by rw [← HT.out]; rfl, rfl⟩
  · go_enter Try.func9, Try.ntmps9
    go_wp2_with fail
    go_ret
    exact ⟨rfl, rfl⟩

theorem own_shape {w : World} {B n : Nat} {v : Value} {xs : List Int} (h : w.ownsRow B 5 1 v n (cellsOf xs)) : ∃ a c, v = .slice a n c ∧ Has w a n c xs := by
  have hl := h.1
  rw [cellsOf_length, Nat.mul_one] at hl
  rcases h.2 with ⟨rfl, rfl⟩ | ⟨g, cap, cur, rfl, _⟩
  · obtain rfl : xs = [] := List.eq_nil_of_length_eq_zero hl
    exact ⟨.none, 0, rfl, Has.none w⟩
  · exact ⟨_, cap, rfl, Has.own h⟩

/-- 'append(v, b...)', v nil or owned, b whatever bytes there are. -/
theorem wpList_has {P : Program} (w : World) {ops : Array Oper} {rest : List Oper} {o : Oper} {a : Act} {Q : Exit → Act → World → Prop} (hgd : o.guard = none) (s x : Operand) (t : TypeId)
    (ho : o.op = .call { callee := .builtin .append, args := #[s, x], argTypes := #[t, t] })
    (base : Nat) (i : TypeInfo) (ht : P.underlying t = some (.slice 5)) (hi : P.info? 5 = some i) (hz : i.zero = some (.int .u8 0)) (hsize : i.size = 1) (hby : i.bytes = 1)
    (v : Value) (n : Nat) (xs : List Int) (hs : a.eval s = v) (hown : w.ownsRow base 5 1 v n (cellsOf xs))
    (sa : Option Addr) (m c : Nat) (ys : List Int) (hx : a.eval x = .slice sa m c) (hH : Has w sa m c ys)
    (hbytes : n + m ≤ 140737488355328) (hbase : base ≤ w.heap.size)
    (h : ∀ a' c' w', w'.ownsRow base 5 1 (.slice a' (n + m) c') (n + m) (cellsOf (xs ++ ys)) → Has w' a' (n + m) c' (xs ++ ys) → w.grownBy w' v.ownBlock → wpList P ops Q rest (a.put o.dst (.slice a' (n + m) c')) w') :
    wpList P ops Q (o :: rest) a w := by
  cases sa with
  | none =>
    obtain ⟨rfl, rfl⟩ := hH.nil rfl
    obtain rfl : ys = [] := List.eq_nil_of_length_eq_zero hH.len
    obtain ⟨a', c', rfl, hh⟩ := own_shape hown
    refine wpList_append_own_none hgd s x t ho base 5 i 1 ht hi _ n _ hs hown hx ?_
    exact h a' c' w (by simpa using hown) (by simpa using hh) (World.grownBy.refl _ _)
  | some ad =>
    refine wpList_append_own w hgd s x t ho base 5 i (.int .u8 0) 1 1 ht hi hz hsize hby rfl (by decide) v n _ hs hown ad m c (cellsOf ys) hx (by rw [cellsOf_length, hH.len, Nat.mul_one]) (hH.news ad rfl) (cellsOf_one ys) (by unfold maxLen; omega) (by omega) hbase ?_
    intro v' w' h2 h3 _
    rw [← cellsOf_append] at h2
    obtain ⟨a', c', rfl, hh⟩ := own_shape h2
    exact h a' c' w' h2 hh h3

theorem getText_enc (t : ByteArray) (R : List Int) (ht : t.size ≤ 100) : getText (encT t ++ R) = (nums t, ((encT t).length : Int), 0) := by
  have h64 : Is64 t.size := by unfold Is64; omega
  have hl := encT_length t
  have hn := nums_length t
  have g := get_enc t.size (nums t ++ R) h64
  have e : encT t ++ R = enc t.size ++ (nums t ++ R) := by simp [encT]
  unfold getText
  rw [e, g, if_neg (fun h => h rfl), if_neg (by omega), if_neg]
  · simp only [Int.toNat_natCast, List.drop_left, Prod.mk.injEq, and_true]
    refine ⟨?_, by omega⟩
    rw [← hn, List.take_left]
  · simp only [List.length_append]
    omega
theorem bytes_append {a b : List Int} (ha : Bytes a) (hb : Bytes b) : Bytes (a ++ b) := fun x hx => by
  rcases List.mem_append.1 hx with h | h
  · exact ha x h
  · exact hb x h
theorem bytes_take {xs : List Int} (h : Bytes xs) (k : Nat) : Bytes (xs.take k) := fun x hx => h x (List.mem_of_mem_take hx)
theorem encT_bytes (t : ByteArray) (ht : t.size ≤ 100) : Bytes (encT t) := bytes_append (enc_bd t.size (by unfold Is64; omega)) (nums_bytes t)
theorem str_append (a b : List Int) : strOfNums (a ++ b) = strOfNums a ++ strOfNums b := by
  apply ByteArray.ext
  simp [strOfNums]
end Num
end Go.Proofs.Ytdceapcfihbapaa
