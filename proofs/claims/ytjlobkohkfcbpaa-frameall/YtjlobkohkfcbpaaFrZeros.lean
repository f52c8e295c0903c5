/- 'append(v, make([]Val, m)...)'; append of ints onto nil or an own row; slices that came in. -/
import Derived.Test.YtjlobkohkfcbpaaFrLaw
import Derived.Test.YtjlobkohkfcbpaaFrLawR
import Derived.Test.YtjlobkohkfcbpaaFrSet
namespace Go.Proofs.Ytjlobkohkfcbpaa
namespace Fr
open Mem
open Go.RowKit
set_option linter.unusedVariables false
set_option linter.unusedSimpArgs false
set_option maxRecDepth 100000

def zAgg : Value := .agg #[.bool false, .int .i32 0]
theorem zero_two (m : Nat) : (Builtin.zeroCells zAgg.cells m).toList = cellsV (List.replicate m v0) := by
  apply List.ext_getElem?
  intro i
  have e2 : zAgg.cells.size = 2 := rfl
  by_cases hi : i < m * 2
  · obtain ⟨c1, c2⟩ := cellsV_at (List.replicate m v0) (i / 2) (by rw [List.length_replicate]; omega)
    have hs : i < (Builtin.zeroCells zAgg.cells m).toList.length := by simp [Builtin.zeroCells, e2]; omega
    rw [List.getElem?_eq_getElem hs]
    have hg : (Builtin.zeroCells zAgg.cells m).toList[i] = zAgg.cells[i % 2]! := by simp [Builtin.zeroCells, e2]
    rw [hg]
    rcases (show i = 2 * (i / 2) ∨ i = 2 * (i / 2) + 1 by omega) with e | e
    · rw [show (cellsV (List.replicate m v0))[i]? = (cellsV (List.replicate m v0))[2 * (i / 2)]? by rw [← e], c1, show i % 2 = 0 by omega]
      simp [zAgg, v0]
      rfl
    · rw [show (cellsV (List.replicate m v0))[i]? = (cellsV (List.replicate m v0))[2 * (i / 2) + 1]? by rw [← e], c2, show i % 2 = 1 by omega]
      simp [zAgg, v0]
      rfl
  · rw [List.getElem?_eq_none (by simp [Builtin.zeroCells, e2]; omega), List.getElem?_eq_none (by rw [cellsV_len, List.length_replicate]; omega)]
theorem run_append_zv (w : World) (base : Nat) (ty : TypeId) (v : Value) (n : Nat) (l : List Vl) (hown : w.ownsRow base 31 2 v n (cellsV l)) (m : Nat) (hnm : n + m ≤ 1000000) (hbase : base ≤ w.heap.size) :
    ∃ v' w', (Builtin.append_ #[22, 3] ty #[v, .int .i64 m]).run Try.prog w = .ok v' w' ∧ w'.ownsRow base 31 2 v' (n + m) (cellsV (l ++ List.replicate m v0)) ∧ w.grownBy w' v.ownBlock := by
  obtain ⟨i, hi, hz, hsize, hby⟩ := info_parts infoV
  have ht := Try.underlying22
  have htn := Try.underlying3
  have hl2 := hown.1
  rw [cellsV_len] at hl2
  have hln : l.length = n := by omega
  by_cases h0 : m = 0
  · subst h0
    refine ⟨v, w, ?_, by rw [List.replicate_zero, List.append_nil, Nat.add_zero]; exact hown, World.grownBy.refl _ _⟩
    have hw : IntKind.i64.wrap (0 : Int) = 0 := by rw [IntKind.wrap_i64]; omega
    rcases hown.2 with ⟨rfl, rfl⟩ | ⟨g, cap, cur, rfl, hbg, hg, hnc, hcm, hcs, htake⟩
    · simp [Builtin.append_, run_underlying ht, run_underlying htn, sizeOf, typeInfo, hi, asInt, asIntOf, hw]
    · simp [Builtin.append_, run_underlying ht, run_underlying htn, sizeOf, typeInfo, hi, asInt, asIntOf, hw, hnc, storeCells]
  have h0 : 0 < m := by omega
  have hzs : (Builtin.zeroCells zAgg.cells m).toList = cellsV (List.replicate m v0) := zero_two m
  have hzm : Builtin.zeroCells zAgg.cells m = (cellsV (List.replicate m v0)).toArray := by rw [← hzs]
  have hzl : (cellsV (List.replicate m v0)).length = m * 2 := by rw [cellsV_len, List.length_replicate]; omega
  have hz2 : zAgg.cells.size = 2 := rfl
  have hlen : (cellsV (l ++ List.replicate m v0)).length = (n + m) * 2 := by rw [cellsV_len, List.length_append, List.length_replicate]; omega
  have hxl : (cellsV l).length = n * 2 := hown.1
  have grown : ∀ (old : Nat) (row : Option Nat),
      (w.drew.alloc (.cells ((cellsV l).toArray ++ Builtin.zeroCells zAgg.cells m ++ Builtin.zeroCells zAgg.cells (grownCap w (n + m) old 31 - (n + m))) 31)).ownsRow base 31 2
        (.slice (some ⟨w.heap.size, 0, none⟩) (n + m) (grownCap w (n + m) old 31)) (n + m) (cellsV (l ++ List.replicate m v0)) ∧
      w.grownBy (w.drew.alloc (.cells ((cellsV l).toArray ++ Builtin.zeroCells zAgg.cells m ++ Builtin.zeroCells zAgg.cells (grownCap w (n + m) old 31 - (n + m))) 31)) row := by
    intro old row
    have hge := grownCap_ge w (n + m) old 31
    have hcm : grownCap w (n + m) old 31 ≤ maxLen := grownCap_le_maxLen w (n + m) old 31 (by unfold maxLen; omega)
    refine ⟨⟨hlen, .inr ⟨w.heap.size, _, _, rfl, hbase, heap_alloc_new w.drew _, hge, hcm, ?_, ?_⟩⟩, ⟨rfl, rfl, rfl, by simp, fun k hk _ => Below.heap_alloc w.drew _ k hk⟩⟩
    · simp only [Array.size_append, List.size_toArray, size_zeroCells, hz2, hxl]
      omega
    · rw [hzm]
      simp only [Array.toList_append, List.append_assoc]
      rw [← List.append_assoc, ← cellsV_append, ← hlen]
      exact List.take_left
  rcases hown.2 with ⟨rfl, rfl⟩ | ⟨g, cap, cur, rfl, hbg, hg, hnc, hcm, hcs, htake⟩
  · obtain rfl : l = [] := List.eq_nil_of_length_eq_zero hln
    have hr := Lib.run_append_nil_zeros (P := Try.prog) w 22 3 ty 31 i zAgg .i64 .i64 ht htn hi hz m h0 (by omega) (by omega) (by rw [hby]; omega)
    have hgr := grown 0 (Value.ownBlock (.slice none 0 0))
    simp only [Nat.zero_add, List.nil_append, cellsV_nil, Array.empty_append] at hgr ⊢
    exact ⟨_, _, hr, hgr.1, hgr.2⟩
  · by_cases hroom : n + m ≤ cap
    · have hw : IntKind.i64.wrap (m : Int) = m := by rw [IntKind.wrap_i64]; omega
      have hneg : ¬ ((m : Int) < 0) := by omega
      have h48i : ¬ (281474976710656 < (m : Int) * (i.bytes : Int)) := by
        rw [hby]
        omega
      have hns : ¬ (m * i.size = 0) := Nat.mul_ne_zero (by omega) (by omega)
      have hns1 : ¬ (m = 0) := by omega
      have hst := run_storeCells_at Try.prog g (n * 2) 31 (cellsV (List.replicate m v0)) 0 cur w hg (by rw [hcs, hzl]; omega) (cellsV_one _)
      simp only [Nat.add_zero] at hst
      refine ⟨.slice (some ⟨g, 0, none⟩) (n + m) cap, w.setRow g (cur.toList.take (n * 2) ++ cellsV (List.replicate m v0) ++ cur.toList.drop (n * 2 + m * 2)).toArray, ?_, ⟨hlen, .inr ⟨g, cap, _, rfl, hbg, setRow_heap w g cur _ 31 _ hg, hroom, hcm, ?_, ?_⟩⟩, ⟨rfl, rfl, rfl, by simp, fun k _ hk => setRow_other w g k _ (fun e => hk (by simp [Value.ownBlock, e]))⟩⟩
      · rw [hzl] at hst
        have hz' : i.zero = some zAgg := hz
        simp [Builtin.append_, run_underlying ht, run_underlying htn, sizeOf, typeInfo, zeroValue, hi, hz', asInt, asIntOf, hw, hneg, h48i, hns1, hroom, Addr.add_lit, hzm, hsize]
        simp [hst]
        intro h00
        omega
      · simp only [List.size_toArray, List.length_append, List.length_take, List.length_drop, Array.length_toList, hzl]
        omega
      · rw [htake, ← cellsV_append, ← hlen]
        exact List.take_left
    · have holds : ∀ j u, (cellsV l)[j]? = some u → w.cell? ((⟨g, 0, none⟩ : Addr).add j) = some u := hown.cells (g := g) rfl
      have hf := run_firstCells_some (P := Try.prog) w.drew i.size n ⟨g, 0, none⟩ n cap (cellsV l) (by rw [hsize]; exact hxl) holds
      have hr := Lib.run_append_grow_zeros (P := Try.prog) w 22 3 ty 31 i zAgg .i64 .i64 ht htn hi hz (some ⟨g, 0, none⟩) n cap (cellsV l) hf m h0 (by omega) (by omega) (by omega) (by rw [hby]; omega) (growslice_fits (by omega) (by rw [hby]; omega))
      have hgr := grown cap (Value.ownBlock (.slice (some ⟨g, 0, none⟩) n cap))
      exact ⟨_, _, hr, hgr.1, hgr.2⟩
theorem wpList_zv {w : World} {ops : Array Oper} {rest : List Oper} {o : Oper} {a : Act} {Q : Exit → Act → World → Prop} (hgd : o.guard = none) (s x : Operand)
    (ho : o.op = .call { callee := .builtin .append, args := #[s, x], argTypes := #[22, 3] })
    (base : Nat) (v : Value) (n : Nat) (l : List Vl) (hs : a.eval s = v) (hown : w.ownsRow base 31 2 v n (cellsV l)) (m : Nat) (hx : a.eval x = .int .i64 m) (hnm : n + m ≤ 1000000) (hbase : base ≤ w.heap.size)
    (h : ∀ v' w', Hid (w'.ownsRow base 31 2 v' (n + m) (cellsV (l ++ List.replicate m v0))) → Hid (w.grownBy w' v.ownBlock) → wpList Try.prog ops Q rest (a.put o.dst v') w') : wpList Try.prog ops Q (o :: rest) a w := by
  obtain ⟨v', w', hr, h2, h3⟩ := run_append_zv w base o.type v n l hown m hnm hbase
  exact Lib.wpList_append_run w hgd s x _ _ ho v (.int .i64 m) hs hx v' w' hr (h v' w' h2 h3)
theorem refs_both (ls st : List Vl) (ts : List Int) (h : ts.length = (refsOf (ls ++ st)).length) : refsOf (setR ls ts ++ setR st (ts.drop (refsOf ls).length)) = ts := by
  rw [refs_append, List.length_append] at h
  have e : ts = ts.take (refsOf ls).length ++ ts.drop (refsOf ls).length := (List.take_append_drop _ _).symm
  have h1 : (ts.take (refsOf ls).length).length = (refsOf ls).length := by rw [List.length_take]; omega
  have h2 : (ts.drop (refsOf ls).length).length = (refsOf st).length := by rw [List.length_drop]; omega
  have hs : setR ls ts = setR ls (ts.take (refsOf ls).length) := by
    have := setR_split ls (ts.take (refsOf ls).length) (ts.drop (refsOf ls).length) h1
    rw [← e] at this
    exact this
  rw [refs_append, hs, refs_setR _ _ h1, refs_setR _ _ h2, ← e]
theorem setR_at (l : List Vl) : ∀ (ts : List Int) (i : Nat) (hi : i < l.length), (refsOf l).length ≤ ts.length → (setR l ts)[i]? = some (if l[i].r then ⟨true, ts.getD (refsOf (l.take i)).length 0 + 1⟩ else l[i]) := by
  induction l with
  | nil => intro ts i hi; simp at hi
  | cons v l ih =>
    intro ts i hi h
    rw [refs_cons] at h
    simp only [setR]
    cases hr : v.r
    · simp only [hr, Bool.false_eq_true, if_false] at h ⊢
      cases i with
      | zero => simp [hr]
      | succ i =>
        have := ih ts i (by simpa using hi) h
        simp only [List.getElem?_cons_succ, List.getElem_cons_succ, List.take_succ_cons, refs_cons, hr, Bool.false_eq_true, if_false]
        exact this
    · simp only [hr, if_true] at h ⊢
      cases ts with
      | nil => simp at h
      | cons t ts =>
        cases i with
        | zero => simp [hr, refs_nil]
        | succ i =>
          have := ih ts i (by simpa using hi) (by simpa using h)
          simp only [List.getElem?_cons_succ, List.getElem_cons_succ, List.take_succ_cons, refs_cons, hr, if_true, List.length_cons, List.getD_cons_succ]
          exact this
theorem fr_own_ne {B B' : Nat} {w : World} {p e s n : Nat} {m pc : Int} {ls st : List Vl} {r : Nat} {v : Value} {xs : List Value} (H : Fr B w p m pc ls r st) (h : w.ownsRow B' e s v n xs) (hne : e ≠ 49) : v.ownBlock ≠ some p := by
  obtain ⟨lx, sx, h1, _, _⟩ := H.blk
  exact fun e => own_ne_blk h h1 hne e.symm
/-! ### Ints -/
theorem is_len {w : World} {a : Option Addr} {n c : Nat} {l : List Int} (h : Is w (.slice a n c) l) : l.length = n ∧ n ≤ c ∧ c ≤ maxLen ∧ (a = none → c = 0) := by
  obtain ⟨a', c', e, h2, h3, h4, h5⟩ := h
  simp only [Value.slice.injEq] at e
  obtain ⟨rfl, rfl, rfl⟩ := e
  exact ⟨rfl, h2, h3, h4⟩
theorem is_at {w : World} {a : Option Addr} {n c : Nat} {l : List Int} (h : Is w (.slice a n c) l) (i : Nat) (hi : i < l.length) : ∃ b off, a = some ⟨b, off, none⟩ ∧ w.cell? ⟨b, off + i, none⟩ = some (.int .i64 l[i]) := by
  obtain ⟨a', c', e, _, _, _, hx⟩ := h
  simp only [Value.slice.injEq] at e
  obtain ⟨rfl, _, rfl⟩ := e
  obtain ⟨b, off, rfl, _, hx⟩ := hx (by omega)
  have := (hx i hi).1
  rw [Nat.mul_one] at this
  exact ⟨b, off, rfl, this⟩
theorem is_news {w : World} {a : Option Addr} {n c : Nat} {l : List Int} (h : Is w (.slice a n c) l) : ∀ ad, a = some ad → ∀ j u, (l.map (Value.int .i64))[j]? = some u → w.cell? (ad.add j) = some u := by
  intro ad had j u hu
  obtain ⟨a', c', e, h2, h3, h4, h5⟩ := h
  simp only [Value.slice.injEq] at e
  obtain ⟨rfl, rfl, rfl⟩ := e
  have hj : j < l.length := by
    have := (List.getElem?_eq_some_iff.1 hu).1
    simpa using this
  obtain ⟨b, off, e, hlt, hx⟩ := h5 (by omega)
  rw [e] at had
  obtain rfl := Option.some.inj had
  have := (hx j hj).1
  rw [Nat.mul_one] at this
  rw [Addr.add_lit, this, ← hu, List.getElem?_map, List.getElem?_eq_getElem hj]
  rfl
theorem is_64 {w : World} {v : Value} {l : List Int} (h : Is w v l) : ∀ x ∈ l, -9223372036854775808 ≤ x ∧ x ≤ 9223372036854775807 := by
  intro x hx
  obtain ⟨i, hi, rfl⟩ := List.getElem_of_mem hx
  obtain ⟨a, c, _, _, _, _, h5⟩ := h
  obtain ⟨b, off, _, _, hx⟩ := h5 (by omega)
  exact (hx i hi).2
theorem own_is {w : World} {B n : Nat} {v : Value} {l : List Int} (h : w.ownsRow B 3 1 v n (l.map (Value.int .i64))) (h64 : ∀ x ∈ l, -9223372036854775808 ≤ x ∧ x ≤ 9223372036854775807) : Is w v l ∧ l.length = n := by
  have hl := h.1
  rw [List.length_map, Nat.mul_one] at hl
  have hc0 := h
  refine ⟨?_, hl⟩
  rcases h.2 with ⟨rfl, rfl⟩ | ⟨g, cap, cur, rfl, hb, hg, hc, hm, hs, ht⟩
  · obtain rfl : l = [] := List.eq_nil_of_length_eq_zero hl
    exact Sl.none _ _ _
  · subst hl
    refine ⟨_, cap, rfl, hc, hm, fun e => (by cases e), fun h0 => ⟨g, 0, rfl, lt_of_block hg, fun i hi => ⟨?_, h64 _ (List.getElem_mem hi)⟩⟩⟩
    have := hc0.cells (g := g) rfl i (.int .i64 l[i]) (by rw [List.getElem?_map, List.getElem?_eq_getElem hi]; rfl)
    rw [Addr.add_lit] at this
    rw [Nat.mul_one]
    exact this
theorem one_int (l : List Int) : ∀ u ∈ l.map (Value.int .i64), u.oneCell' = true := ints_oneCell .i64 l
theorem wpList_append_is {w : World} {ops : Array Oper} {rest : List Oper} {o : Oper} {a : Act} {Q : Exit → Act → World → Prop} (hgd : o.guard = none) (s x : Operand)
    (ho : o.op = .call { callee := .builtin .append, args := #[s, x], argTypes := #[43, 43] }) (base : Nat) (v : Value) (n : Nat) (l : List Int) (hs : a.eval s = v) (hown : w.ownsRow base 3 1 v n (l.map (Value.int .i64)))
    (ad : Option Addr) (m c : Nat) (l' : List Int) (hx : a.eval x = .slice ad m c) (hv : Is w (.slice ad m c) l') (hbig : n + m ≤ 1000000) (hbase : base ≤ w.heap.size)
    (h : ∀ v' w', Hid (w'.ownsRow base 3 1 v' (n + m) ((l ++ l').map (Value.int .i64))) → Hid (w.grownBy w' v.ownBlock) → wpList Try.prog ops Q rest (a.put o.dst v') w') : wpList Try.prog ops Q (o :: rest) a w := by
  obtain ⟨i0, hi, hz0, hz1, hz2⟩ := info_parts infoN
  obtain ⟨hlen, hc1, hc2, hnil⟩ := is_len hv
  cases ad with
  | none =>
    have hc0 := hnil rfl
    obtain rfl : m = 0 := by omega
    obtain rfl : c = 0 := hc0
    obtain rfl : l' = [] := List.eq_nil_of_length_eq_zero hlen
    refine wpList_append_own_none hgd s x _ ho base 3 i0 1 Try.underlying43 hi v n _ hs hown hx ?_
    exact h v w (by rw [List.append_nil, Nat.add_zero]; exact hown) (World.grownBy.refl _ _)
  | some ad =>
    refine wpList_append_own w hgd s x _ ho base 3 i0 (.int .i64 0) 1 8 Try.underlying43 hi hz0 hz1 hz2 rfl (by decide) v n _ hs hown ad m c (l'.map (Value.int .i64)) hx (by rw [List.length_map, hlen, Nat.mul_one]) (is_news hv ad rfl) (one_int l') (by unfold maxLen; omega) (by omega) hbase ?_
    intro v' w' h2 h3 _
    rw [← List.map_append] at h2
    exact h v' w' h2 h3
/-! ### Slices that came in -/
section
variable {H : Type} {enc : TypeId × Value → H} {W : World} {base : Nat} {spare : Nat → Bool} {held : Bool}
theorem open_is {fuel : Nat} {cs : List Value} {x : DataW H × List MemPlace} (h : DataW.trod enc Try.prog W base spare held fuel 43 cs = some x) : ∃ v L, cs = [v] ∧ Sl intE 1 W v L :=
  open_row 0 intE 1 Try.underlying43 (by kernel_rfl) (by decide) (fun fuel cs x h hl => by
    obtain ⟨s, rfl, hs⟩ := trod_i h
    exact ⟨s, fun b off hc => ⟨hc 0 _ rfl, hs⟩⟩) h
theorem open_vs {fuel : Nat} {cs : List Value} {x : DataW H × List MemPlace} (h : DataW.trod enc Try.prog W base spare held fuel 22 cs = some x) : ∃ v L, cs = [v] ∧ Sl valE 2 W v L :=
  open_row v0 valE 2 Try.underlying22 (by kernel_rfl) (by decide) (fun fuel cs x h hl => by
    obtain ⟨xs, n, _, _, _, hxl, hf⟩ := DataW.trod_struct Try.underlying31 h
    match xs, hxl with
    | [y0, y1], _ =>
      obtain ⟨b0, e0, _⟩ := DataW.trod_bool Try.underlying4 (hf 0 _ rfl)
      obtain ⟨n1, e1, _, hw⟩ := DataW.trod_int Try.underlying21 (hf 1 _ rfl)
      exact ⟨⟨b0, n1⟩, fun b off hc => ⟨hc 0 _ (take1 e0), hc 1 _ (take1 e1), bounds_i32 hw⟩⟩) h
end
/-- The first of a slice of values. -/
theorem vs_take {w : World} {a : Option Addr} {n c : Nat} {l : List Vl} (h : Vs w (.slice a n c) l) (k : Nat) (hk : k ≤ n) : Vs w (.slice a k c) (l.take k) := by
  obtain ⟨a', c', e, h2, h3, h4, h5⟩ := h
  simp only [Value.slice.injEq] at e
  obtain ⟨rfl, rfl, rfl⟩ := e
  have hl : (l.take k).length = k := by rw [List.length_take]; omega
  refine ⟨a, c, by rw [hl], by omega, h3, h4, fun h0 => ?_⟩
  obtain ⟨b, off, e, hlt, hx⟩ := h5 (by omega)
  refine ⟨b, off, e, hlt, fun i hi => ?_⟩
  rw [List.getElem_take]
  exact hx i (by omega)
end Fr
end Go.Proofs.Ytjlobkohkfcbpaa
