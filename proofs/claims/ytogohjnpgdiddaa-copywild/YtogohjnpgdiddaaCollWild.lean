/- Objects of which some words name nothing (no program in it but the appends). -/
import Derived.Test.YtogohjnpgdiddaaCollAllM
import Derived.Test.YtogohjnpgdiddaaCollMirror
import Derived.Test.YtogohjnpgdiddaaCollPut
namespace Go.Proofs.Ytogohjnpgdiddaa
namespace Coll
open Mem Heap
open Go.RowKit
set_option linter.unusedVariables false
set_option linter.unusedSimpArgs false
set_option maxRecDepth 100000

/-- Objects as they were laid, but for some first words, which name nothing. -/
structure WildO (N : List No) (os : List Ob) (W : List Nat) : Prop where
  len : os.map (fun o => (o.k, o.v.length)) = N.map (fun o => (o.k, o.ws.length))
  wild : ∀ b ∈ W, ∃ o, os[b]? = some o ∧ 0 < o.v.length ∧ hasO os (o.v.getD 0 0 - 1) = false
theorem WildO.start (N : List No) : WildO N (laidO refsB N) [] := by
  refine ⟨?_, fun b hb => by simp at hb⟩
  unfold laidO
  rw [List.map_map]
  apply List.map_congr_left
  intro o _
  simp [laidN]
theorem WildO.count {N : List No} {os : List Ob} {W : List Nat} (h : WildO N os W) : os.length = N.length := by
  have := congrArg List.length h.len
  simpa using this
theorem WildO.pl {N : List No} {os : List Ob} {W : List Nat} (h : WildO N os W) (i : Nat) : Coll.pl os i = plN N i := by
  rw [← pl_laid refsB N i]
  apply pl_same
  have h1 := congrArg (List.map Prod.snd) h.len
  have h2 := congrArg (List.map Prod.snd) (WildO.start N).len
  rw [List.map_map, List.map_map] at h1 h2
  exact h1.trans h2.symm
theorem WildO.one {N : List No} {os : List Ob} {W : List Nat} (h : WildO N os W) (i : Nat) (o : No) (hi : N[i]? = some o) : ∃ q, os[i]? = some q ∧ q.k = o.k ∧ q.v.length = o.ws.length := by
  have h1 := congrArg (fun l => l[i]?) h.len
  simp only [List.getElem?_map, hi, Option.map_some] at h1
  cases hq : os[i]? with
  | none => rw [hq] at h1; simp at h1
  | some q =>
    rw [hq] at h1
    simp only [Option.map_some, Option.some.injEq, Prod.mk.injEq] at h1
    exact ⟨q, rfl, h1.1, h1.2⟩
theorem marks_set (os : List Ob) (i : Nat) (q : Ob) (x : Int) (hi : os[i]? = some q) : marksO (os.set i ⟨q.k, q.v.set 0 x⟩) = marksO os := by
  obtain ⟨hl, e⟩ := List.getElem?_eq_some_iff.1 hi
  have hs := pl_split os i hl
  rw [e] at hs
  have hset : os.set i ⟨q.k, q.v.set 0 x⟩ = os.take i ++ ⟨q.k, q.v.set 0 x⟩ :: os.drop (i + 1) := by
    rw [List.set_eq_take_append_cons_drop, if_pos hl]
  rw [hset]
  conv => rhs; rw [hs]
  exact marks_put _ _ _ _ _
theorem has_set (os : List Ob) (i : Nat) (q : Ob) (x y : Int) (hi : os[i]? = some q) : hasO (os.set i ⟨q.k, q.v.set 0 x⟩) y = hasO os y := by
  unfold hasO
  rw [marks_set os i q x hi]
theorem WildO.put {N : List No} {os : List Ob} {W : List Nat} (h : WildO N os W) (i : Nat) (q : Ob) (x : Int) (hi : os[i]? = some q) (h0 : 0 < q.v.length) (hW : ∀ b ∈ W, b < i) (hx : hasO os (x - 1) = false) : WildO N (os.set i ⟨q.k, q.v.set 0 x⟩) (W ++ [i]) := by
  obtain ⟨hl, e⟩ := List.getElem?_eq_some_iff.1 hi
  refine ⟨?_, fun b hb => ?_⟩
  · rw [← h.len]
    apply List.ext_getElem
    · simp
    · intro j h1 h2
      simp only [List.getElem_map, List.getElem_set]
      by_cases hj : i = j
      · subst hj
        rw [if_pos rfl, e]
        simp
      · rw [if_neg hj]
  · rcases List.mem_append.1 hb with hb | hb
    · obtain ⟨o, g1, g2, g3⟩ := h.wild b hb
      refine ⟨o, ?_, g2, by rw [has_set os i q x _ hi]; exact g3⟩
      have := hW b hb
      rw [List.getElem?_set_ne (by omega)]
      exact g1
    · have hb : b = i := by simpa using hb
      subst hb
      refine ⟨⟨q.k, q.v.set 0 x⟩, List.getElem?_set_self hl, by simpa using h0, ?_⟩
      rw [has_set os b q x _ hi]
      simp only [List.getD, List.getElem?_set_self h0, Option.getD_some]
      exact hx
/-- Whatever is told, told again among more, has no more words. -/
theorem total_sub (os : List Ob) : ∀ (a b : List Nat), a.Nodup → (∀ x ∈ a, x ∈ b) → total os a ≤ total os b
  | [], b, _, _ => by simp [total]
  | x :: r, b, hn, h => by
    obtain ⟨p, q, rfl⟩ := List.append_of_mem (h x (by simp))
    obtain ⟨hn1, hn2⟩ := List.nodup_cons.1 hn
    have ih := total_sub os r (p ++ q) hn2 (fun y hy => by
      have hm := h y (by simp [hy])
      rw [List.mem_append, List.mem_cons] at hm
      rw [List.mem_append]
      rcases hm with hm | hm | hm
      · exact .inl hm
      · subst hm; exact absurd hy hn1
      · exact .inr hm)
    rw [total_append] at ih
    rw [total_append, total_cons, total_cons]
    omega
theorem total_all (os : List Ob) : total os ((List.range os.length).map (pl os)) = (wordsO os).length := by
  have key : ∀ n, n ≤ os.length → total os ((List.range n).map (pl os)) = pl os n := by
    intro n
    induction n with
    | zero => intro _; rfl
    | succ n ih =>
      intro hn
      rw [List.range_succ, List.map_append, total_append, ih (by omega), pl_succ os n (by omega)]
      simp only [List.map_cons, List.map_nil, total_cons, total_nil, sz, pl_ob os n (by omega)]
  rw [key os.length (Nat.le_refl _), pl_all]
theorem addRef_sub (os : List Ob) (out : List Nat) (x : Int) : ∀ a ∈ out, a ∈ addRef os out x := fun a ha => (add_prefix os out x).subset ha
theorem root_in (os : List Ob) (rs : List Int) (x : Int) (hx : x ∈ rs) (hh : hasO os x = true) (f : Nat → Nat → Bool) : x.toNat ∈ live f os rs := by
  obtain ⟨i, hi, rfl⟩ := List.getElem_of_mem hx
  have h1 : rs.getD i 0 = rs[i] := by simp [List.getD, hi]
  have h2 : (rs.getD i 0).toNat ∈ rootN os rs (i + 1) := by
    rw [rootN]
    exact add_mem (by rw [h1]; exact hh)
  rw [h1] at h2
  have h3 : rootN os rs (i + 1) <+: rootN os rs rs.length := by
    obtain ⟨k, hk⟩ := Nat.exists_eq_add_of_le (show i + 1 ≤ rs.length by omega)
    rw [hk]
    exact root_le os rs (i + 1) k
  unfold live
  exact (clo_prefix f os _ _ _).subset (h3.subset h2)
/-- All objects are roots: all live. -/
theorem all_live (N : List No) (os : List Ob) (W : List Nat) (h : WildO N os W) (rs : List Int) (f : Nat → Nat → Bool) : total os (live f os (rs ++ places N N.length)) = (wordsO os).length := by
  have hg := live_good f os (rs ++ places N N.length)
  have h1 := hg.total
  have h2 := total_sub os ((List.range os.length).map (pl os)) (live f os (rs ++ places N N.length)) (by
    rw [List.Nodup, List.pairwise_map]
    refine List.Pairwise.imp_of_mem ?_ (List.nodup_range (n := os.length))
    intro a b ha hb hab e
    exact hab (pl_inj (Nat.le_of_lt (List.mem_range.1 ha)) (Nat.le_of_lt (List.mem_range.1 hb)) e)) (by
    intro x hx
    rw [List.mem_map] at hx
    obtain ⟨b, hb, rfl⟩ := hx
    have hb := List.mem_range.1 hb
    have hm : ((pl os b : Nat) : Int) ∈ rs ++ places N N.length := by
      refine List.mem_append_right _ ?_
      unfold places
      rw [List.mem_map]
      exact ⟨b, by rw [List.mem_range, ← h.count]; exact hb, by rw [h.pl]⟩
    have := root_in os (rs ++ places N N.length) _ hm (pl_has os b hb) f
    rwa [Int.toNat_natCast] at this)
  rw [total_all] at h2
  omega
/-- A root is among the places just if there is an object. -/
theorem place_has (N : List No) (os : List Ob) (W : List Nat) (h : WildO N os W) (x : Int) : (idxF (places N N.length) x 0 < 0) ↔ hasO os x = false := by
  constructor
  · intro hi
    cases hh : hasO os x
    · rfl
    · obtain ⟨b, hb, rfl⟩ := has_pl hh
      have hm : ((pl os b : Nat) : Int) ∈ places N N.length := by
        unfold places
        rw [List.mem_map]
        exact ⟨b, by rw [List.mem_range, ← h.count]; exact hb, by rw [h.pl]⟩
      have := idx_ge _ _ 0 hm
      omega
  · intro hh
    have hn : x ∉ places N N.length := by
      intro hm
      unfold places at hm
      rw [List.mem_map] at hm
      obtain ⟨b, hb, rfl⟩ := hm
      have hb := List.mem_range.1 hb
      rw [← h.pl, pl_has os b (by rw [h.count]; exact hb)] at hh
      cases hh
    rw [idx_no x _ 0 hn]
    decide
theorem place_sign (os : List Ob) (out : List Nat) (x : Int) : placeR os out x = -1 ↔ hasO os x = false := by
  unfold placeR
  cases hh : hasO os x
  · simp
  · rw [if_pos rfl]
    constructor
    · intro h; omega
    · intro h; cases h
/-- A word that names nothing is nought in the copy. -/
theorem wild_zero (N : List No) (os : List Ob) (W : List Nat) (h : WildO N os W) (rs : List Int) (b : Nat) (hb : b ∈ W) (hbN : b < N.length) : getO ((live refsB os (rs ++ places N N.length)).map (turnO refsB os (live refsB os (rs ++ places N N.length)))) (placeR os (live refsB os (rs ++ places N N.length)) (plN N b : Int)) 0 = 0 := by
  obtain ⟨o, g1, g2, g3⟩ := h.wild b hb
  have hbl : b < os.length := by rw [h.count]; exact hbN
  have hh := pl_has os b hbl
  have hm : ((plN N b : Nat) : Int) ∈ rs ++ places N N.length := by
    refine List.mem_append_right _ ?_
    unfold places
    rw [List.mem_map]
    exact ⟨b, by rw [List.mem_range]; exact hbN, rfl⟩
  rw [← h.pl b] at hm ⊢
  have hin := root_in os (rs ++ places N N.length) _ hm hh refsB
  rw [Int.toNat_natCast] at hin
  generalize live refsB os (rs ++ places N N.length) = fin at *
  have hp : placeR os fin (pl os b : Int) = (posOf os fin (pl os b) : Int) := by
    unfold placeR
    rw [if_pos hh, Int.toNat_natCast]
  rw [hp]
  obtain ⟨c1, c2⟩ := cop_at (f := refsB) (os := os) (fin := fin) (pl os b) hin
  obtain ⟨hbl', eo⟩ := List.getElem?_eq_some_iff.1 g1
  have hob : obAt os (pl os b) = o := by rw [pl_ob os b hbl, eo]
  have hl : (turnO refsB os fin (pl os b)).v.length = o.v.length := by
    have := turn_len' refsB os fin (pl os b)
    unfold sz at this
    rw [hob] at this
    omega
  have hat := (at_ob c1).2.2.1 0 (by rw [c2, hl]; exact g2)
  refine hat.trans ?_
  rw [c2]
  have hf : refsB o.k 0 = true := by simp [refsB]
  have hz : (turnO refsB os fin (pl os b)).v.getD 0 0 = refT os fin (o.v.getD 0 0) := by
    unfold turnO partO
    rw [hob]
    simp [partV, List.getD, g2, hf]
  rw [hz, refT]
  unfold placeR
  rw [g3]
  simp
/-- 'append(v, b...)', v a row of one's own, b whatever numbers there are. -/
theorem wpList_more {P : Program} (w : World) {ops : Array Oper} {rest : List Oper} {o : Oper} {a : Act} {Q : Exit → Act → World → Prop} (hgd : o.guard = none) (s x : Operand) (t : TypeId)
    (ho : o.op = .call { callee := .builtin .append, args := #[s, x], argTypes := #[t, t] })
    (e : TypeId) (i : TypeInfo) (z : Value) (k : IntKind) (bytes : Nat) (ht : P.underlying t = some (.slice e)) (hi : P.info? e = some i) (hz : i.zero = some z) (hsize : i.size = 1) (hby : i.bytes = bytes) (hzs : z.cells.size = 1)
    (B : Nat) (v : Value) (n : Nat) (xs : List Int) (hs : a.eval s = v) (hown : w.ownsRow B e 1 v n (xs.map (Value.int k))) (hB : B ≤ w.heap.size)
    (sa : Option Addr) (m c : Nat) (ys : List Int) (hx : a.eval x = .slice sa m c) (hH : Reads k w sa m c ys) (hm : n + m ≤ 1000000000000) (hbytes : (n + m) * bytes ≤ 140737488355328)
    (h : ∀ v' w', w'.ownsRow B e 1 v' (n + m) ((xs ++ ys).map (Value.int k)) → w.grownBy w' v.ownBlock → wpList P ops Q rest (a.put o.dst v') w') :
    wpList P ops Q (o :: rest) a w := by
  cases sa with
  | none =>
    obtain ⟨rfl, rfl⟩ := hH.nil rfl
    obtain rfl : ys = [] := List.eq_nil_of_length_eq_zero hH.len
    refine wpList_append_own_none hgd s x t ho B e i 1 ht hi v n _ hs hown hx ?_
    exact h v w (by simpa using hown) ⟨rfl, rfl, rfl, Nat.le_refl _, fun _ _ _ => rfl⟩
  | some ad =>
    refine wpList_append_own w hgd s x t ho B e i z 1 bytes ht hi hz hsize hby hzs (by decide) v n _ hs hown ad m c (ys.map (Value.int k)) hx (by rw [List.length_map, hH.len, Nat.mul_one]) (hH.news ad rfl) (one_ints k ys) (by unfold maxLen; omega) hbytes hB ?_
    intro v' w' h2 h3 _
    rw [← List.map_append] at h2
    exact h v' w' h2 h3
theorem infoA : (Try.prog.info? 47).map (fun i => (i.zero, i.size, i.bytes)) = some (some (.agg #[.int .i64 0, .int .i64 0]), 2, 16) := by kernel_rfl
def pairs (W : List Nat) : List Value := W.flatMap fun (b : Nat) => [Value.int .i64 (b : Int), Value.int .i64 0]
theorem pairs_snoc (W : List Nat) (b : Nat) : pairs (W ++ [b]) = pairs W ++ [.int .i64 (b : Int), .int .i64 0] := by simp [pairs]
theorem pairs_at (W : List Nat) : ∀ (i b : Nat), W[i]? = some b → (pairs W)[i * 2]? = some (.int .i64 (b : Int)) := by
  induction W with
  | nil => intro i b h; simp at h
  | cons c r ih =>
    intro i b h
    cases i with
    | zero => simp at h; subst h; rfl
    | succ i =>
      have e : pairs (c :: r) = [.int .i64 (c : Int), .int .i64 0] ++ pairs r := by simp [pairs]
      rw [e, show (i + 1) * 2 = i * 2 + 1 + 1 by omega]
      exact ih i b (by simpa using h)
theorem put_idx' (os : List Ob) (i : Nat) (q : Ob) (x : Int) (hi : os[i]? = some q) (h0 : 0 < q.v.length) : holdsO os (pl os i : Int) 0 = true ∧ putS os (pl os i : Int) 0 x = os.set i ⟨q.k, q.v.set 0 x⟩ := by
  obtain ⟨hl, e⟩ := List.getElem?_eq_some_iff.1 hi
  have h := put_idx os i 0 x hl (by rw [e]; exact h0)
  rw [e] at h
  exact h
end Coll
end Go.Proofs.Ytogohjnpgdiddaa
