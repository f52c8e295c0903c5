/- Contracts and laws, texts of mine put into one. -/
import Derived.Test.YtjblmgdjaaeedaaGreatClsGrow
import Derived.Test.YtjblmgdjaaeedaaGreatFilSpec
import Derived.Maps.OwnSet
import Derived.Test.YtjblmgdjaaeedaaGreatLibStep
import Derived.Test.YtjblmgdjaaeedaaGreatOpCode
/- Blocks that are told apart by what lies in them; what is carried on wherever cells that read still read. -/
namespace Go.Proofs.YtjblmgdjaaeedaaGreat
namespace Fil
open Num Kind Op4 Cls
open Go.RowKit
set_option linter.unusedVariables false
set_option maxRecDepth 100000

theorem own_ne_blk {w : World} {base e size n B T : Nat} {v : Value} {xs : List Value} {cs : Array Value} (h : w.ownsRow base e size v n xs) (hb : w.heap[B]? = some (.cells cs T (0, 0))) (hne : e ≠ T) : some B ≠ v.ownBlock := by
  rcases h.2 with ⟨rfl, _⟩ | ⟨g, cap, cur, rfl, _, hg, _⟩
  · intro e; cases e
  · intro e1
    have e2 : B = g := by simpa [Value.ownBlock] using e1
    subst e2
    rw [hg] at hb
    simp at hb
    exact hne hb.2
theorem blk_other {w : World} {B T : Nat} {cs : Array Value} (h : w.heap[B]? = some (.cells cs T (0, 0))) {a : Addr} (u : Value) (hne : B ≠ a.block) : (w.setCell a u).heap[B]? = some (.cells cs T (0, 0)) := by
  rw [Below.heap_setCell _ _ _ _ hne]
  exact h
theorem map_ne_own {H : Type} {w : World} {P : Program} {k : TypeId} {R : Value → Option (DataW H × List MemPlace)} {b n : Nat} {D : DataW H} (h : w.ownsMap P k R b n D) {base e size m : Nat} {v : Value} {xs : List Value} (ho : w.ownsRow base e size v m xs) : some b ≠ v.ownBlock := by
  obtain ⟨es, clock, hb, _⟩ := h
  rcases ho.2 with ⟨rfl, _⟩ | ⟨g, cap, cur, rfl, _, hg, _⟩
  · intro e; cases e
  · intro e1
    have e2 : b = g := by simpa [Value.ownBlock] using e1
    subst e2
    rw [hg] at hb
    cases hb
theorem map_ne_blk {H : Type} {w : World} {P : Program} {k : TypeId} {R : Value → Option (DataW H × List MemPlace)} {b n : Nat} {D : DataW H} (h : w.ownsMap P k R b n D) {B T : Nat} {cs : Array Value} (ho : w.heap[B]? = some (.cells cs T (0, 0))) : b ≠ B := by
  obtain ⟨es, clock, hb, _⟩ := h
  intro e
  subst e
  rw [ho] at hb
  cases hb
theorem map_later {H : Type} {w w' : World} {P : Program} {k : TypeId} {R : Value → Option (DataW H × List MemPlace)} {b n : Nat} {D : DataW H} (h : w.ownsMap P k R b n D) (hb : Below w.heap.size w w') : w'.ownsMap P k R b n D := by
  have hlt := h.lt
  obtain ⟨es, clock, h1, h2⟩ := h
  exact ⟨es, clock, by rw [hb.block b hlt]; exact h1, h2⟩

/-! ### The map of the pool's places -/
def keyL (t : ByteArray) : Lit := .string t.data.toList
theorem keyL_inj {a b : ByteArray} (h : keyL a = keyL b) : a = b := by
  cases a; cases b
  simp only [keyL, Lit.string.injEq] at h
  congr 1
  exact Array.toList_inj.1 h
/-- The map tells of each text whether it is in the pool, and where. -/
def Places (D : DataW Unit) (p : List ByteArray) : Prop :=
  Maps.IsMap D ∧ ∀ t, Maps.has D (keyL t) = decide (idx p t < p.length) ∧ (idx p t < p.length → D.atKey (keyL t) (.lit (.int .i64 0)) = .lit (.int .i64 (idx p t)))
theorem places_nil : Places (.map []) [] := ⟨⟨[], rfl⟩, fun t => ⟨rfl, fun h => absurd h (by simp)⟩⟩
theorem idx_snoc (p : List ByteArray) (t : ByteArray) (h : ¬ idx p t < p.length) : idx (p ++ [t]) t = p.length := by
  induction p with
  | nil => simp [idx]
  | cons x r ih =>
    unfold idx at h ⊢
    show (if x = t then 0 else idx (r ++ [t]) t + 1) = _
    split
    · next e => rw [if_pos e] at h; simp at h
    · next e =>
      rw [if_neg e] at h
      rw [ih (by simpa using h)]
      rfl
theorem idx_other (p : List ByteArray) (t u : ByteArray) (h : u ≠ t) : (idx (p ++ [t]) u < (p ++ [t]).length ↔ idx p u < p.length) ∧ (idx p u < p.length → idx (p ++ [t]) u = idx p u) := by
  induction p with
  | nil =>
    show (idx [t] u < _ ↔ _) ∧ _
    unfold idx
    rw [if_neg (fun e => h e.symm)]
    simp [idx]
  | cons x r ih =>
    show ((if x = u then 0 else idx (r ++ [t]) u + 1) < _ ↔ (if x = u then 0 else idx r u + 1) < _) ∧ ((if x = u then 0 else idx r u + 1) < _ → (if x = u then 0 else idx (r ++ [t]) u + 1) = (if x = u then 0 else idx r u + 1))
    split
    · simp
    · simp only [List.length_append, List.length_cons, List.cons_append, List.length_nil] at ih ⊢
      refine ⟨⟨fun h => ?_, fun h => ?_⟩, fun h => ?_⟩
      · have := ih.1.1 (by omega); omega
      · have := ih.1.2 (by omega); omega
      · rw [ih.2 (by omega)]
theorem places_put {D : DataW Unit} {p : List ByteArray} (h : Places D p) (t : ByteArray) (hn : ¬ idx p t < p.length) : Places (D.put (keyL t) (.lit (.int .i64 (p.length : Int)))) (p ++ [t]) := by
  obtain ⟨hm, hp⟩ := h
  have hk : WideAt.IsKeyLit (keyL t) := trivial
  refine ⟨hm.put _ _, fun u => ?_⟩
  by_cases e : u = t
  · subst e
    rw [idx_snoc p u hn, Maps.has_put_same hm hk]
    refine ⟨by simp, fun _ => ?_⟩
    exact Maps.atKey_put_same hm hk _ _
  · have hne : keyL u ≠ keyL t := fun h => e (keyL_inj h)
    obtain ⟨i1, i2⟩ := idx_other p t u e
    rw [Maps.has_put_other hne, (hp u).1]
    refine ⟨by rw [decide_eq_decide]; exact i1.symm, fun h => ?_⟩
    rw [Maps.atKey_put_other hne, (hp u).2 (i1.1 h), i2 (i1.1 h)]
end Fil
end Go.Proofs.YtjblmgdjaaeedaaGreat

/- The contracts of file's writer: number, truth, text: what speaks of the program. -/
namespace Go.Proofs.YtjblmgdjaaeedaaGreat
namespace Fil
open Num Kind Op4 Cls
open Go.RowKit
set_option linter.unusedVariables false
set_option linter.unusedSimpArgs false
set_option maxRecDepth 100000

def strs (p : List ByteArray) : List Value := p.map .string
/-- The writer in block B, its map in block M: it holds what has been written so far; what lay there in w0 lies there. -/
structure Wrt (w0 w : World) (B M : Nat) (s : WS) : Prop where
  bel : Below w0.heap.size w0 w
  lo : w0.heap.size ≤ B
  mlo : w0.heap.size ≤ M
  rows : ∃ v0 v1, w.heap[B]? = some (.cells #[v0, v1, .map (some M)] 58 (0, 0)) ∧ w.ownsRow w0.heap.size 5 1 v0 s.out.length (cellsOf s.out) ∧ w.ownsRow w0.heap.size 9 1 v1 s.pool.length (strs s.pool)
  map : ∃ D, w.ownsMap Tryz.prog 9 (plainElem Tryz.prog 3) M s.pool.length D ∧ Places D s.pool

/-- Blocks that are none of a writer's stay as they are. -/
def Frm (w w' : World) : Prop := ∀ (b : Nat) (cs : Array Value) (T : Nat) (fr : Nat × Nat), w.heap[b]? = some (.cells cs T fr) → T ≠ 58 → T ≠ 5 → T ≠ 9 → w'.heap[b]? = some (.cells cs T fr)
theorem Frm.refl (w : World) : Frm w w := fun b cs T fr h _ _ _ => h
theorem Frm.trans {a b c : World} (h : Frm a b) (h' : Frm b c) : Frm a c := fun k cs T fr h0 h1 h2 h3 => h' k cs T fr (h k cs T fr h0 h1 h2 h3) h1 h2 h3
theorem Frm.below {w w' : World} (h : Below w.heap.size w w') : Frm w w' := fun b cs T fr h0 _ _ _ => by
  rw [h.block b (lt_of_block h0)]
  exact h0
theorem Frm.grown {w w' : World} {row : Option Nat} (h : w.grownBy w' row) (hr : ∀ (g : Nat) (cs : Array Value) (T : Nat) (fr : Nat × Nat), row = some g → w.heap[g]? = some (.cells cs T fr) → T = 58 ∨ T = 5 ∨ T = 9) : Frm w w' := fun b cs T fr h0 h1 h2 h3 => by
  rw [h.block b (lt_of_block h0) (fun e => by rcases hr b cs T fr e.symm h0 with h | h | h <;> contradiction)]
  exact h0
theorem own_type {w : World} {base e size n : Nat} {v : Value} {xs : List Value} (h : w.ownsRow base e size v n xs) {g : Nat} {cs : Array Value} {T : Nat} {fr : Nat × Nat} (hv : v.ownBlock = some g) (hb : w.heap[g]? = some (.cells cs T fr)) : T = e := by
  rcases h.2 with ⟨rfl, _⟩ | ⟨g', cap, cur, rfl, _, hg, _⟩
  · cases hv
  · have e1 : g' = g := by simpa [Value.ownBlock] using hv
    subst e1
    rw [hg] at hb
    simp at hb
    exact hb.2.1.symm
theorem Frm.set {w : World} {B : Nat} {cs : Array Value} {T : Nat} (hb : w.heap[B]? = some (.cells cs T (0, 0))) (hT : T = 58) (j : Nat) (u : Value) : Frm w (w.setCell ⟨B, j, none⟩ u) := fun b cs' T' fr h0 h1 h2 h3 => by
  rw [Below.heap_setCell _ _ _ _ (fun e => ?_)]
  · exact h0
  · have e' : b = B := e
    subst e'
    rw [hb] at h0
    simp at h0
    exact h1 (h0.2.1.symm.trans hT)
theorem blk_frm {w w' : World} {B T : Nat} {cs : Array Value} (h : w.heap[B]? = some (.cells cs T (0, 0))) (hf : Frm w w') (h1 : T ≠ 58 := by decide) (h2 : T ≠ 5 := by decide) (h3 : T ≠ 9 := by decide) : w'.heap[B]? = some (.cells cs T (0, 0)) := hf _ _ _ _ h h1 h2 h3
theorem Wrt.store0 {w0 w w1 wE : World} {B M : Nat} {s : WS} {v0 v1 V : Value} {D : DataW Unit} {m : Nat} {xs : List Int} (bel : Below w0.heap.size w0 w) (lo : w0.heap.size ≤ B) (mlo : w0.heap.size ≤ M)
    (BB : w.heap[B]? = some (.cells #[v0, v1, .map (some M)] 58 (0, 0))) (own0 : w.ownsRow w0.heap.size 5 1 v0 s.out.length (cellsOf s.out)) (own1 : w.ownsRow w0.heap.size 9 1 v1 s.pool.length (strs s.pool))
    (om : w.ownsMap Tryz.prog 9 (plainElem Tryz.prog 3) M s.pool.length D) (ok : Places D s.pool) (kk : Below w.heap.size w w1) (gE : w1.grownBy wE v0.ownBlock)
    (oE : wE.ownsRow w0.heap.size 5 1 V m (cellsOf xs)) (hm : m = xs.length) : Wrt w0 (wE.setCell ⟨B, 0, none⟩ V) B M ⟨s.pool, xs⟩ ∧ Frm w (wE.setCell ⟨B, 0, none⟩ V) := by
  subst hm
  have BBk := blk_on BB kk
  have own0k := own_later own0 kk
  have own1k := own_later own1 kk
  have omk := map_later om kk
  have hne := own_ne_blk own0k BBk (by decide)
  have BBE := blk_grown BBk gE hne
  have own1E := own1k.kept gE (own_apart own1k own0k (by decide))
  have omE := omk.kept gE (map_ne_own omk own0k)
  have bk := bel.trans (kk.mono bel.size)
  have bE := bk.grown gE bk.size (fun k e => (own0k.lt k e).1)
  refine ⟨⟨bE.setCell (p := ⟨B, 0, none⟩) lo _, lo, mlo, ⟨V, v1, blk_set BBE 0 V, ?_, ?_⟩, ⟨D, omE.setCell (map_ne_blk omE BBE) _, ok⟩⟩,
    ((Frm.below kk).trans (Frm.grown gE (fun g cs T fr e h => .inr (.inl (own_type own0k e h))))).trans (Frm.set BBE rfl 0 V)⟩
  · exact ownsRow_setCell_other oE (a := ⟨B, 0, none⟩) (fun e => own_ne_blk oE BBE (by decide) e.symm) _
  · exact ownsRow_setCell_other own1E (a := ⟨B, 0, none⟩) (fun e => own_ne_blk own1E BBE (by decide) e.symm) _
set_option maxHeartbeats 2000000 in
theorem wnum_any (B M : Nat) (s : WS) (n : Int) (w0 w : World) (H : Wrt w0 w B M s) (hn : Is64 n) (hs : s.out.length ≤ 100000000000) :
    Calls Tryz.prog 80 #[.pointer (some ⟨B, 0, none⟩), .int .i64 n] w fun e w' => e = .returned (.tuple #[]) ∧ Wrt w0 w' B M (wN n s) ∧ Frm w w' := by
  obtain ⟨bel, lo, mlo, ⟨v0, v1, BB, own0, own1⟩, ⟨D, om, ok⟩⟩ := H
  obtain ⟨i0, hi, hz0, hz1, hz2⟩ := info_parts info8
  have hel := enc_len n
  have kk : Below w.heap.size w w.drew := (Below.refl _ _).drew
  have BBk := blk_on BB kk
  have x0 := blk_cell BBk 0
  have f0 := blk_free BBk 0
  simp only [List.getElem?_toArray, List.getElem?_cons_zero, List.getElem?_cons_succ] at x0
  go_enter Tryz.func80, Tryz.ntmps80
  go_region_law (first | (refine step_has rfl (.tmp 8) (.tmp 10) 29 rfl w0.heap.size i0 Tryz.underlying29 hi hz0 hz1 hz2 v0 s.out.length s.out (by simp [Act.eval, Act.put]) (own_later own0 kk) (some ⟨g, 0, none⟩) (0 + (enc n).length) cap (enc n) (by simp [Act.eval, Act.put]) hE (by omega) (Nat.le_trans bel.size kk.size) ?_; intro aE cE wE oE hE2 gE; have BBE := blk_grown BBk gE (own_ne_blk own0 BB (by decide)); have x0 := blk_cell BBE 0; have f0 := blk_free BBE 0; simp only [List.getElem?_toArray, List.getElem?_cons_zero, List.getElem?_cons_succ] at x0) | (go_simp; go_wp2_with (go_at_call 56; refine (put_any none 0 0 [] n _ (Has.none _) hn (by omega)).mono ?_; rintro e w' ⟨g, cap, rfl, own, b'⟩; have kk := kk.trans (b'.mono kk.size); have BBk := blk_on BB kk; have x0 := blk_cell BBk 0; have f0 := blk_free BBk 0; simp only [List.getElem?_toArray, List.getElem?_cons_zero, List.getElem?_cons_succ] at x0; have hE := Has.own own; simp only [List.nil_append] at hE)))
  all_goals
    go_wp2_with fail
    go_returns
    rw [Nat.zero_add] at oE
    exact ⟨rfl, Wrt.store0 bel lo mlo BB own0 own1 om ok kk gE oE (by simp)⟩
theorem wtruth_any (B M : Nat) (s : WS) (q : Bool) (w0 w : World) (H : Wrt w0 w B M s) (hs : s.out.length ≤ 100000000000) :
    Calls Tryz.prog 50 #[.pointer (some ⟨B, 0, none⟩), .bool q] w fun e w' => e = .returned (.tuple #[]) ∧ Wrt w0 w' B M (wB q s) ∧ Frm w w' := by
  cases q
  · have HC := wnum_any B M s 0 w0 w H (by unfold Is64; decide) hs
    go_enter Tryz.func50, Tryz.ntmps50
    go_wp2_with fail
    refine HC.mono ?_
    rintro e w1 ⟨rfl, H1, F1⟩
    go_wp2_with fail
    go_returns
    exact ⟨rfl, H1, F1⟩
  · have HC := wnum_any B M s 1 w0 w H (by unfold Is64; decide) hs
    go_enter Tryz.func50, Tryz.ntmps50
    go_wp2_with fail
    refine HC.mono ?_
    rintro e w1 ⟨rfl, H1, F1⟩
    go_wp2_with fail
    go_returns
    exact ⟨rfl, H1, F1⟩
theorem lawS : Go.Maps.Keyed Tryz.prog 9 := Go.Maps.string_keyed Tryz.underlying9
theorem zeroInt (w : World) : (zeroValue 3).run Tryz.prog w = .ok (.int .i64 0) w := by kernel_rfl
theorem wf_nat (k : Nat) (h : k ≤ 1000000000000) : (Lit.int .i64 (k : Int)).wf = true := WalkArith.wf_i64 (by omega)
theorem Wrt.pooled {w0 w w1 wE : World} {B M : Nat} {s : WS} {v0 v1 V : Value} {D : DataW Unit} {t : ByteArray} {o : Obj} (bel : Below w0.heap.size w0 w) (lo : w0.heap.size ≤ B) (mlo : w0.heap.size ≤ M)
    (BB : w.heap[B]? = some (.cells #[v0, v1, .map (some M)] 58 (0, 0))) (own0 : w.ownsRow w0.heap.size 5 1 v0 s.out.length (cellsOf s.out)) (own1 : w.ownsRow w0.heap.size 9 1 v1 s.pool.length (strs s.pool))
    (om : w.ownsMap Tryz.prog 9 (plainElem Tryz.prog 3) M s.pool.length D) (ok : Places D s.pool) (hn : ¬ idx s.pool t < s.pool.length)
    (om1 : w1.ownsMap Tryz.prog 9 (plainElem Tryz.prog 3) M (s.pool.length + 1) (D.put (keyL t) (.lit (.int .i64 (s.pool.length : Int))))) (g1 : w.grownBy w1 (some M))
    (gE : (w1.alloc o).grownBy wE v1.ownBlock)
    (oE : wE.ownsRow w0.heap.size 9 1 V (s.pool.length + 1) (strs s.pool ++ [.string t])) : Wrt w0 (wE.setCell ⟨B, 1, none⟩ V) B M ⟨s.pool ++ [t], s.out⟩ ∧ Frm w (wE.setCell ⟨B, 1, none⟩ V) := by
  have ka := alloc1 w1 o
  have BB1 := blk_grown BB g1 (fun e => map_ne_blk om BB (Option.some.inj e).symm)
  have own01 := own0.kept g1 (.inr (fun e => map_ne_own om own0 e.symm))
  have own11 := own1.kept g1 (.inr (fun e => map_ne_own om own1 e.symm))
  have b1 := bel.grown g1 bel.size (fun k e => by cases e; exact mlo)
  have BBk := blk_on BB1 ka
  have own0k := own_later own01 ka
  have own1k := own_later own11 ka
  have omk := map_later om1 ka
  have BBE := blk_grown BBk gE (own_ne_blk own1k BBk (by decide))
  have own0E := own0k.kept gE (own_apart own0k own1k (by decide))
  have omE := omk.kept gE (map_ne_own omk own1k)
  have bk := b1.trans (ka.mono b1.size)
  have bE := bk.grown gE bk.size (fun k e => (own1k.lt k e).1)
  have e1 : (s.pool ++ [t]).length = s.pool.length + 1 := by simp
  have e2 : strs (s.pool ++ [t]) = strs s.pool ++ [.string t] := by simp [strs]
  refine ⟨⟨bE.setCell (p := ⟨B, 1, none⟩) lo _, lo, mlo, ⟨v0, V, blk_set BBE 1 V, ?_, ?_⟩, ⟨_, ?_, places_put ok t hn⟩⟩,
    (((Frm.grown g1 (fun g cs T fr e h => ?_)).trans (Frm.below ka)).trans (Frm.grown gE (fun g cs T fr e h => .inr (.inr (own_type own1k e h))))).trans (Frm.set BBE rfl 1 V)⟩
  · exact ownsRow_setCell_other own0E (a := ⟨B, 1, none⟩) (fun e => own_ne_blk own0E BBE (by decide) e.symm) _
  · show World.ownsRow _ _ _ _ _ (s.pool ++ [t]).length (strs (s.pool ++ [t]))
    rw [e1, e2]
    exact ownsRow_setCell_other oE (a := ⟨B, 1, none⟩) (fun e => own_ne_blk oE BBE (by decide) e.symm) _
  · show World.ownsMap _ _ _ _ _ (s.pool ++ [t]).length _
    rw [e1]
    exact omE.setCell (map_ne_blk omE BBE) _
  · obtain ⟨es, clock, hb, _⟩ := om
    cases e
    rw [h] at hb
    cases hb
theorem oneStr (a : ByteArray) : ∀ u ∈ [Value.string a], u.oneCell' = true := by
  intro u hu
  simp only [List.mem_cons, List.not_mem_nil, or_false] at hu
  subst hu
  rfl
theorem news_lit (w : World) (cs : List Value) (T : Nat) : ∀ j u, cs[j]? = some u → (w.alloc (.cells cs.toArray T)).cell? ((⟨w.heap.size, 0, none⟩ : Addr).add j) = some u := by
  intro j u h
  rw [Addr.add_lit, Nat.zero_add, cell_new]
  simpa using h
set_option maxHeartbeats 4000000 in
theorem wtext_any (B M : Nat) (s : WS) (t : ByteArray) (w0 w : World) (H : Wrt w0 w B M s) (ht : t.size ≤ maxLen) (hs : s.out.length ≤ 100000000000) (hp : s.pool.length ≤ 100000000000) :
    Calls Tryz.prog 49 #[.pointer (some ⟨B, 0, none⟩), .string t] w fun e w' => e = .returned (.tuple #[]) ∧ Wrt w0 w' B M (wT t s) ∧ Frm w w' := by
  have HW : Hid _ := H
  obtain ⟨bel, lo, mlo, ⟨v0, v1, BB, own0, own1⟩, ⟨D, om, ok⟩⟩ := H
  obtain ⟨iS, hiS, hzS0, hzS1, hzS2⟩ := info_parts infoS
  have hkey : keyOf Tryz.prog 9 (.string t) = some (keyL t) := Go.WideMaps.keyOf_string_mk Tryz.underlying9 ht
  obtain ⟨hh, hat⟩ := ok.2 t
  have hle := idx_le s.pool t
  have x1 := blk_cell BB 1
  have x2 := blk_cell BB 2
  simp only [List.getElem?_toArray, List.getElem?_cons_zero, List.getElem?_cons_succ] at x1 x2
  by_cases hin : idx s.pool t < s.pool.length
  · have hv : wT t s = wN (idx s.pool t) s := by unfold wT wN; rw [if_pos hin]
    rw [hv]
    have hh' : Maps.has D (keyL t) = true := by rw [hh]; simp [hin]
    have hat' := hat hin
    clear hat hh hv
    have HC := wnum_any B M s (idx s.pool t) w0 w HW.out (by unfold Is64; omega) hs
    generalize idx s.pool t = I at *
    go_enter Tryz.func49, Tryz.ntmps49
    go_wp2_with (at_lookup; refine wpList_lookup_own_ok_int _ rfl _ _ 56 rfl 9 3 .i64 lawS Tryz.underlying56 Tryz.underlying3 (zeroInt _) M s.pool.length D rfl om _ _ rfl hkey ?_; intro c hc hwc; rw [hh']; obtain rfl : c = (I : Int) := by simpa using hc.symm.trans hat')
    refine HC.mono ?_
    rintro e w1 ⟨rfl, H1, F1⟩
    go_wp2_with fail
    go_returns
    exact ⟨rfl, H1, F1⟩
  · have hv : wT t s = wN (s.pool.length : Int) ⟨s.pool ++ [t], s.out⟩ := by
      unfold wT wN
      rw [if_neg hin, show idx s.pool t = s.pool.length by omega]
    rw [hv]
    have hh' : Maps.has D (keyL t) = false := by rw [hh]; simp; omega
    clear hat hh hv
    have hne1 := own_ne_blk own1 BB (by decide)
    obtain ⟨a1, c1, rfl⟩ : ∃ a c, v1 = .slice a s.pool.length c := by
      rcases own1.2 with ⟨rfl, h0⟩ | ⟨g, cap, cur, rfl, _⟩
      · exact ⟨none, 0, by rw [h0]⟩
      · exact ⟨_, cap, rfl⟩
    have hwf := wf_nat s.pool.length (by omega)
    go_enter Tryz.func49, Tryz.ntmps49
    go_upto_region 4 with (first | (at_lookup; refine wpList_lookup_own_ok_int _ rfl _ _ 56 rfl 9 3 .i64 lawS Tryz.underlying56 Tryz.underlying3 (zeroInt _) M s.pool.length D rfl om _ _ rfl hkey ?_; intro c hc hwc; rw [hh']) | (at_mapUpdate; refine wpList_mapUpdate_own _ rfl _ _ _ 56 rfl 9 3 lawS Tryz.underlying56 _ M s.pool.length D rfl om (by unfold maxLen; omega) _ _ _ rfl rfl hkey _ [] (plainElem_int Tryz.underlying3 hwf) ?_; intro w1 om1 g1))
    have ka := alloc1 w1 (.cells #[.string t] 9)
    have BB1 := blk_grown BB g1 (fun e => map_ne_blk om BB (Option.some.inj e).symm)
    have own11 := own1.kept g1 (.inr (fun e => map_ne_own om own1 e.symm))
    have b1 := bel.grown g1 bel.size (fun k e => by cases e; exact mlo)
    have hB3 := Nat.le_trans b1.size ka.size
    have BB1k := blk_on BB1 ka
    have x1' := blk_cell BB1 1
    have x1k := blk_cell BB1k 1
    simp only [List.getElem?_toArray, List.getElem?_cons_zero, List.getElem?_cons_succ] at x1' x1k
    have own1k := own11.alloc (.cells #[.string t] 9)
    have hnews := news_lit w1 [.string t] 9
    have hneK := own_ne_blk own1k BB1k (by decide)
    clear x1 x2
    go_upto_region 5 with (at_builtin; refine wpList_append_lies _ rfl (.tmp 32) (.tmp 34) 22 rfl (w0.heap.size) 9 iS (.string ⟨#[]⟩) 1 16 Tryz.underlying22 hiS hzS0 hzS1 hzS2 rfl (by decide) _ s.pool.length (strs s.pool) rfl own1k ⟨w1.heap.size, 0, none⟩ 1 1 ([.string t]) rfl rfl hnews (oneStr t) (by decide) (by unfold maxLen; omega) (by omega) hB3 _ rfl ?_; intro g' cap' w4 own4 g4 hat hlt; have BB4 := blk_grown BB1k g4 hneK; have y := blk_cell BB4 1; have y' := blk_free BB4 1; simp only [List.getElem?_toArray, List.getElem?_cons_zero, List.getElem?_cons_succ] at y)
    obtain ⟨H2, F2⟩ := Wrt.pooled bel lo mlo BB own0 own1 om ok hin om1 g1 g4 own4
    generalize w4.setCell ⟨B, 1, none⟩ (.slice (some ⟨g', 0, none⟩) (s.pool.length + 1) cap') = w5 at *
    clear y y' BB4 own4 g4 hat hlt ka BB1 own11 b1 hB3 BB1k x1' x1k own1k hnews hneK om1 g1
    have HC := wnum_any B M _ (s.pool.length : Int) w0 w5 H2 (by unfold Is64; omega) hs
    go_wp2_with fail
    refine HC.mono ?_
    rintro e w6 ⟨rfl, H6, F6⟩
    go_wp2_with fail
    go_returns
    exact ⟨rfl, H6, F2.trans F6⟩
end Fil
end Go.Proofs.YtjblmgdjaaeedaaGreat

/- The contracts of file's writer: lists, fields, instructions, Maps, traps, methods, classes. (Written by tools/gen/genwrite.py.) -/
namespace Go.Proofs.YtjblmgdjaaeedaaGreat
namespace Fil
open Num Kind Op4 Cls
open Go.RowKit
set_option linter.unusedVariables false
set_option linter.unusedSimpArgs false
set_option maxRecDepth 100000

theorem Wrt.later {w0 w w' : World} {B M : Nat} {s : WS} (h : Wrt w0 w B M s) (hb : Below w.heap.size w w') : Wrt w0 w' B M s := by
  obtain ⟨bel, lo, mlo, ⟨v0, v1, BB, own0, own1⟩, ⟨D, om, ok⟩⟩ := h
  exact ⟨bel.trans (hb.mono bel.size), lo, mlo, ⟨v0, v1, blk_on BB hb, own_later own0 hb, own_later own1 hb⟩, ⟨D, map_later om hb, ok⟩⟩
def Fits (s : WS) : Prop := s.out.length ≤ 100000000000 ∧ s.pool.length ≤ 100000000000
def Up (g : WS → WS) : Prop := ∀ s : WS, s.out.length ≤ (g s).out.length ∧ s.pool.length ≤ (g s).pool.length
theorem Fits.down {g : WS → WS} {s : WS} (h : Fits (g s)) (hu : Up g) : Fits s := ⟨Nat.le_trans (hu s).1 h.1, Nat.le_trans (hu s).2 h.2⟩
theorem up_n (n : Int) : Up (wN n) := fun s => ⟨by simp [wN], Nat.le_refl _⟩
theorem up_b (b : Bool) : Up (wB b) := up_n _
theorem up_t (t : ByteArray) : Up (wT t) := fun s => ⟨by simp [wT], by unfold wT; dsimp only; split <;> simp⟩
theorem Up.then {g g' : WS → WS} (h : Up g) (h' : Up g') : Up (fun s => g' (g s)) := fun s => ⟨Nat.le_trans (h s).1 (h' _).1, Nat.le_trans (h s).2 (h' _).2⟩
theorem up_fold {α : Type} (f : α → WS → WS) (hf : ∀ x, Up (f x)) : ∀ l : List α, Up (fun s => l.foldl (fun s x => f x s) s)
  | [] => fun s => ⟨Nat.le_refl _, Nat.le_refl _⟩
  | x :: l => (hf x).then (up_fold f hf l)
theorem up_l {α : Type} (f : α → WS → WS) (hf : ∀ x, Up (f x)) (l : List α) : Up (wL f l) := (up_n l.length).then (up_fold f hf l)
theorem up_f (f : FieldL) : Up (wF f) := ((up_t _).then (up_t _)).then (up_b _)
theorem up_i (x : InsL) : Up (wI x) := (((up_n _).then (up_n _)).then (up_t _)).then (up_t _)
theorem up_x (x : MapL) : Up (wX x) := ((up_n _).then (up_l wT up_t _)).then (up_l wT up_t _)
theorem up_r (x : TrapL) : Up (wR x) := (((up_n _).then (up_n _)).then (up_n _)).then (up_t _)
theorem up_m (m : MethL) : Up (wM m) := (((((((((up_t _).then (up_l wT up_t _)).then (up_t _)).then (up_b _)).then (up_b _)).then (up_n _)).then (up_n _)).then (up_l wI up_i _)).then (up_l wX up_x _)).then (up_l wR up_r _)
/-- The list written up to a place. -/
def wK {α : Type} (f : α → WS → WS) (l : List α) (s : WS) (k : Nat) : WS := (l.take k).foldl (fun s x => f x s) (wN l.length s)
theorem wK_zero {α : Type} (f : α → WS → WS) (l : List α) (s : WS) : wK f l s 0 = wN l.length s := rfl
theorem wK_succ {α : Type} (f : α → WS → WS) (l : List α) (s : WS) (k : Nat) (h : k < l.length) : wK f l s (k + 1) = f l[k] (wK f l s k) := by
  unfold wK
  rw [List.take_add_one, List.getElem?_eq_getElem h, Option.toList_some, List.foldl_append]
  rfl
theorem wK_end {α : Type} (f : α → WS → WS) (l : List α) (s : WS) (k : Nat) (h : l.length ≤ k) : wK f l s k = wL f l s := by
  unfold wK wL
  rw [List.take_of_length_le h]
theorem fits_k {α : Type} (f : α → WS → WS) (hf : ∀ x, Up (f x)) (l : List α) (s : WS) (h : Fits (wL f l s)) (k : Nat) : Fits (wK f l s k) := by
  have e : wL f l s = (l.drop k).foldl (fun s x => f x s) (wK f l s k) := by
    unfold wK wL
    rw [← List.foldl_append, List.take_append_drop]
  rw [e] at h
  exact Fits.down (g := fun s => (l.drop k).foldl (fun s x => f x s) s) h (up_fold f hf _)
theorem okT_max {t : ByteArray} (h : okT t) : t.size ≤ maxLen := by unfold okT at h; unfold maxLen; omega

set_option maxHeartbeats 4000000 in
theorem wls_any (B M : Nat) (L : List ByteArray) (v : Value) (s : WS) (w0 w : World) (H : Wrt w0 w B M s) (hv : Sl strE 1 w0 v L) (hok : ∀ x ∈ L, okT x) (hfit : Fits (wL wT L s)) :
    Calls Tryz.prog 51 #[.pointer (some ⟨B, 0, none⟩), v, .func (.func 49) #[.pointer (some ⟨B, 0, none⟩)] #[]] w fun e w' => e = .returned (.tuple #[]) ∧ Wrt w0 w' B M (wL wT L s) ∧ Frm w w' := by
  have HT : Hid _ := hv
  obtain ⟨a, cp, rfl, hl, hm, hnil, hx⟩ := hv
  unfold maxLen at hm
  clear hx hnil
  have HFK : Hid (∀ k, Fits (wK wT L s k)) := fits_k wT up_t L s hfit
  have h0 := HFK.out 0
  rw [wK_zero] at h0
  have HC0 := wnum_any B M s L.length w0 w H (by unfold Is64; omega) (Fits.down h0 (up_n _)).1
  clear h0
  go_enter Tryz.func51, Tryz.ntmps51
  go_wp2_with fail
  refine HC0.mono ?_
  rintro e w1 ⟨rfl, H1, F1⟩
  clear HC0
  go_wp2_with fail
  go_loopw [14] (fun i wr => ∃ k : Nat, k ≤ L.length ∧ i = .int .i64 k ∧ Wrt w0 wr B M (wK wT L s k) ∧ Frm w wr) (fun i _ => L.length - (intOf i).toNat)
  case atStart => exact ⟨0, by omega, rfl, H1, F1⟩
  case round =>
    clear H H1 F1
    obtain ⟨k, hk, rfl, H, hfr⟩ := hrel
    by_cases hlk : k < L.length
    · obtain ⟨aa, cc, ev, _, _, _, hx9⟩ := Sl.later strE_stable HT.out H.bel
      simp only [Value.slice.injEq, true_and] at ev
      obtain ⟨rfl, rfl⟩ := ev
      obtain ⟨b9, off9, rfl, _, hx9⟩ := hx9 (by omega)
      have HK : Hid _ := wK_succ wT L s k hlk
      have hfk := HFK.out (k + 1)
      rw [HK.out] at hfk
      have hkx := hok _ (List.getElem_mem hlk)
      have hcell := hx9 k hlk
      clear hx9
      generalize L[k] = X at *
      obtain ⟨c0, c1⟩ := hcell
      simp only [Nat.mul_one] at c0
      generalize wK wT L s k = sk at *
      have HC := wtext_any B M sk X w0 wr H c1 (Fits.down hfk (up_t _)).1 (Fits.down hfk (up_t _)).2
      clear hfk H
      go_wp2_with fail
      refine HC.mono ?_
      rintro e w2 ⟨rfl, H2, F2⟩
      have F3 := hfr.trans (F2)
      go_wp2_with fail
      go_roundw
      case rel => exact ⟨k + 1, by omega, by go_num, by rw [HK.out]; exact H2, F3⟩
      case measure => simp [intOf]; omega
    · have HE : Hid _ := wK_end wT L s k (by omega)
      go_wp2_with fail
      go_returns
      exact ⟨rfl, by rw [← HE.out]; exact H, hfr⟩
set_option maxHeartbeats 8000000 in
theorem wfield_any (B M : Nat) (s : WS) (nm ty : ByteArray) (st : Bool) (w0 w : World) (H : Wrt w0 w B M s) (hok : okF (⟨nm, ty, st⟩ : FieldL)) (hfit : Fits (wF (⟨nm, ty, st⟩ : FieldL) s)) :
    Calls Tryz.prog 53 #[.pointer (some ⟨B, 0, none⟩), .agg #[.string nm, .string ty, .bool st]] w fun e w' => e = .returned (.tuple #[]) ∧ Wrt w0 w' B M (wF (⟨nm, ty, st⟩ : FieldL) s) ∧ Frm w w' := by
  have ka := alloc1 w (.cells #[.string nm, .string ty, .bool st] 40)
  have BX0 := blk_new w #[.string nm, .string ty, .bool st] 40
  have H0 := H.later ka
  have F0 := Frm.below ka
  obtain ⟨k0, k1⟩ := hok
  unfold wF at hfit ⊢
  dsimp only at *
  have t3 := hfit
  have t2 := Fits.down t3 (up_b _)
  have t1 := Fits.down t2 (up_t _)
  have t0 := Fits.down t1 (up_t _)
  clear hfit H ka
  have HC0 := wtext_any B M s nm w0 (w.alloc (.cells #[.string nm, .string ty, .bool st] 40)) H0 (okT_max k0) t0.1 t0.2
  clear t0
  go_enter Tryz.func53, Tryz.ntmps53
  go_wp2_with fail
  refine HC0.mono ?_
  rintro e w1 ⟨rfl, H1, F1⟩
  have BX1 := blk_frm BX0 F1
  have F1 := F0.trans F1
  clear HC0 BX0 F0 H0
  have x1 := blk_cell BX1 1
  simp only [List.getElem?_toArray, List.getElem?_cons_zero, List.getElem?_cons_succ] at x1
  have HC1 := wtext_any B M _ ty w0 w1 H1 (okT_max k1) t1.1 t1.2
  clear t1 H1
  go_wp2_with fail
  refine HC1.mono ?_
  rintro e w2 ⟨rfl, H2, F2⟩
  have BX2 := blk_frm BX1 F2
  have F2 := F1.trans F2
  clear HC1 BX1 F1 x1
  have x2 := blk_cell BX2 2
  simp only [List.getElem?_toArray, List.getElem?_cons_zero, List.getElem?_cons_succ] at x2
  have HC2 := wtruth_any B M _ st w0 w2 H2 t2.1
  clear t2 H2
  go_wp2_with fail
  refine HC2.mono ?_
  rintro e w3 ⟨rfl, H3, F3⟩
  have BX3 := blk_frm BX2 F3
  have F3 := F2.trans F3
  clear HC2 BX2 F2 x2
  go_wp2_with fail
  go_returns
  exact ⟨rfl, H3, F3⟩
set_option maxHeartbeats 8000000 in
theorem wins_any (B M : Nat) (s : WS) (o a : Int) (c m : ByteArray) (w0 w : World) (H : Wrt w0 w B M s) (hok : okI (⟨o, a, c, m⟩ : InsL)) (hfit : Fits (wI (⟨o, a, c, m⟩ : InsL) s)) :
    Calls Tryz.prog 82 #[.pointer (some ⟨B, 0, none⟩), .agg #[.int .i64 o, .int .i64 a, .string c, .string m]] w fun e w' => e = .returned (.tuple #[]) ∧ Wrt w0 w' B M (wI (⟨o, a, c, m⟩ : InsL) s) ∧ Frm w w' := by
  have ka := alloc1 w (.cells #[.int .i64 o, .int .i64 a, .string c, .string m] 48)
  have BX0 := blk_new w #[.int .i64 o, .int .i64 a, .string c, .string m] 48
  have H0 := H.later ka
  have F0 := Frm.below ka
  obtain ⟨k0, k1, k2, k3⟩ := hok
  unfold wI at hfit ⊢
  dsimp only at *
  have t4 := hfit
  have t3 := Fits.down t4 (up_t _)
  have t2 := Fits.down t3 (up_t _)
  have t1 := Fits.down t2 (up_n _)
  have t0 := Fits.down t1 (up_n _)
  clear hfit H ka
  have HC0 := wnum_any B M s o w0 (w.alloc (.cells #[.int .i64 o, .int .i64 a, .string c, .string m] 48)) H0 k0 t0.1
  clear t0
  go_enter Tryz.func82, Tryz.ntmps82
  go_wp2_with fail
  refine HC0.mono ?_
  rintro e w1 ⟨rfl, H1, F1⟩
  have BX1 := blk_frm BX0 F1
  have F1 := F0.trans F1
  clear HC0 BX0 F0 H0
  have x1 := blk_cell BX1 1
  simp only [List.getElem?_toArray, List.getElem?_cons_zero, List.getElem?_cons_succ] at x1
  have HC1 := wnum_any B M _ a w0 w1 H1 k1 t1.1
  clear t1 H1
  go_wp2_with fail
  refine HC1.mono ?_
  rintro e w2 ⟨rfl, H2, F2⟩
  have BX2 := blk_frm BX1 F2
  have F2 := F1.trans F2
  clear HC1 BX1 F1 x1
  have x2 := blk_cell BX2 2
  simp only [List.getElem?_toArray, List.getElem?_cons_zero, List.getElem?_cons_succ] at x2
  have HC2 := wtext_any B M _ c w0 w2 H2 (okT_max k2) t2.1 t2.2
  clear t2 H2
  go_wp2_with fail
  refine HC2.mono ?_
  rintro e w3 ⟨rfl, H3, F3⟩
  have BX3 := blk_frm BX2 F3
  have F3 := F2.trans F3
  clear HC2 BX2 F2 x2
  have x3 := blk_cell BX3 3
  simp only [List.getElem?_toArray, List.getElem?_cons_zero, List.getElem?_cons_succ] at x3
  have HC3 := wtext_any B M _ m w0 w3 H3 (okT_max k3) t3.1 t3.2
  clear t3 H3
  go_wp2_with fail
  refine HC3.mono ?_
  rintro e w4 ⟨rfl, H4, F4⟩
  have BX4 := blk_frm BX3 F4
  have F4 := F3.trans F4
  clear HC3 BX3 F3 x3
  go_wp2_with fail
  go_returns
  exact ⟨rfl, H4, F4⟩
set_option maxHeartbeats 8000000 in
theorem wtrap_any (B M : Nat) (s : WS) (f t at9 : Int) (c : ByteArray) (w0 w : World) (H : Wrt w0 w B M s) (hok : okR (⟨f, t, at9, c⟩ : TrapL)) (hfit : Fits (wR (⟨f, t, at9, c⟩ : TrapL) s)) :
    Calls Tryz.prog 86 #[.pointer (some ⟨B, 0, none⟩), .agg #[.int .i64 f, .int .i64 t, .int .i64 at9, .string c]] w fun e w' => e = .returned (.tuple #[]) ∧ Wrt w0 w' B M (wR (⟨f, t, at9, c⟩ : TrapL) s) ∧ Frm w w' := by
  have ka := alloc1 w (.cells #[.int .i64 f, .int .i64 t, .int .i64 at9, .string c] 80)
  have BX0 := blk_new w #[.int .i64 f, .int .i64 t, .int .i64 at9, .string c] 80
  have H0 := H.later ka
  have F0 := Frm.below ka
  obtain ⟨k0, k1, k2, k3⟩ := hok
  unfold wR at hfit ⊢
  dsimp only at *
  have t4 := hfit
  have t3 := Fits.down t4 (up_t _)
  have t2 := Fits.down t3 (up_n _)
  have t1 := Fits.down t2 (up_n _)
  have t0 := Fits.down t1 (up_n _)
  clear hfit H ka
  have HC0 := wnum_any B M s f w0 (w.alloc (.cells #[.int .i64 f, .int .i64 t, .int .i64 at9, .string c] 80)) H0 k0 t0.1
  clear t0
  go_enter Tryz.func86, Tryz.ntmps86
  go_wp2_with fail
  refine HC0.mono ?_
  rintro e w1 ⟨rfl, H1, F1⟩
  have BX1 := blk_frm BX0 F1
  have F1 := F0.trans F1
  clear HC0 BX0 F0 H0
  have x1 := blk_cell BX1 1
  simp only [List.getElem?_toArray, List.getElem?_cons_zero, List.getElem?_cons_succ] at x1
  have HC1 := wnum_any B M _ t w0 w1 H1 k1 t1.1
  clear t1 H1
  go_wp2_with fail
  refine HC1.mono ?_
  rintro e w2 ⟨rfl, H2, F2⟩
  have BX2 := blk_frm BX1 F2
  have F2 := F1.trans F2
  clear HC1 BX1 F1 x1
  have x2 := blk_cell BX2 2
  simp only [List.getElem?_toArray, List.getElem?_cons_zero, List.getElem?_cons_succ] at x2
  have HC2 := wnum_any B M _ at9 w0 w2 H2 k2 t2.1
  clear t2 H2
  go_wp2_with fail
  refine HC2.mono ?_
  rintro e w3 ⟨rfl, H3, F3⟩
  have BX3 := blk_frm BX2 F3
  have F3 := F2.trans F3
  clear HC2 BX2 F2 x2
  have x3 := blk_cell BX3 3
  simp only [List.getElem?_toArray, List.getElem?_cons_zero, List.getElem?_cons_succ] at x3
  have HC3 := wtext_any B M _ c w0 w3 H3 (okT_max k3) t3.1 t3.2
  clear t3 H3
  go_wp2_with fail
  refine HC3.mono ?_
  rintro e w4 ⟨rfl, H4, F4⟩
  have BX4 := blk_frm BX3 F4
  have F4 := F3.trans F4
  clear HC3 BX3 F3 x3
  go_wp2_with fail
  go_returns
  exact ⟨rfl, H4, F4⟩
set_option maxHeartbeats 8000000 in
theorem wmap_any (B M : Nat) (s : WS) (at9 : Int) (lo sk : List ByteArray) (v1 v2 : Value) (w0 w : World) (H : Wrt w0 w B M s) (hs1 : Sl strE 1 w0 v1 lo) (hs2 : Sl strE 1 w0 v2 sk) (hok : okX (⟨at9, lo, sk⟩ : MapL)) (hfit : Fits (wX (⟨at9, lo, sk⟩ : MapL) s)) :
    Calls Tryz.prog 84 #[.pointer (some ⟨B, 0, none⟩), .agg #[.int .i64 at9, v1, v2]] w fun e w' => e = .returned (.tuple #[]) ∧ Wrt w0 w' B M (wX (⟨at9, lo, sk⟩ : MapL) s) ∧ Frm w w' := by
  have ka := alloc1 w (.cells #[.int .i64 at9, v1, v2] 50)
  have BX0 := blk_new w #[.int .i64 at9, v1, v2] 50
  have H0 := H.later ka
  have F0 := Frm.below ka
  obtain ⟨k0, k1, k2, k3, k4⟩ := hok
  unfold wX at hfit ⊢
  dsimp only at *
  have t3 := hfit
  have t2 := Fits.down t3 (up_l wT up_t _)
  have t1 := Fits.down t2 (up_l wT up_t _)
  have t0 := Fits.down t1 (up_n _)
  clear hfit H ka
  have HC0 := wnum_any B M s at9 w0 (w.alloc (.cells #[.int .i64 at9, v1, v2] 50)) H0 k0 t0.1
  clear t0
  go_enter Tryz.func84, Tryz.ntmps84
  go_wp2_with fail
  refine HC0.mono ?_
  rintro e w1 ⟨rfl, H1, F1⟩
  have BX1 := blk_frm BX0 F1
  have F1 := F0.trans F1
  clear HC0 BX0 F0 H0
  have x1 := blk_cell BX1 1
  simp only [List.getElem?_toArray, List.getElem?_cons_zero, List.getElem?_cons_succ] at x1
  have HC1 := wls_any B M lo v1 _ w0 w1 H1 hs1 k3 t2
  clear t1 H1
  go_wp2_with fail
  refine HC1.mono ?_
  rintro e w2 ⟨rfl, H2, F2⟩
  have BX2 := blk_frm BX1 F2
  have F2 := F1.trans F2
  clear HC1 BX1 F1 x1
  have x2 := blk_cell BX2 2
  simp only [List.getElem?_toArray, List.getElem?_cons_zero, List.getElem?_cons_succ] at x2
  have HC2 := wls_any B M sk v2 _ w0 w2 H2 hs2 k4 t3
  clear t2 H2
  go_wp2_with fail
  refine HC2.mono ?_
  rintro e w3 ⟨rfl, H3, F3⟩
  have BX3 := blk_frm BX2 F3
  have F3 := F2.trans F3
  clear HC2 BX2 F2 x2
  go_wp2_with fail
  go_returns
  exact ⟨rfl, H3, F3⟩
set_option maxHeartbeats 4000000 in
theorem wlf_any (B M : Nat) (L : List FieldL) (v : Value) (s : WS) (w0 w : World) (H : Wrt w0 w B M s) (hv : Sl fieldE 3 w0 v L) (hok : ∀ x ∈ L, okF x) (hfit : Fits (wL wF L s)) :
    Calls Tryz.prog 52 #[.pointer (some ⟨B, 0, none⟩), v, .func (.func 53) #[.pointer (some ⟨B, 0, none⟩)] #[]] w fun e w' => e = .returned (.tuple #[]) ∧ Wrt w0 w' B M (wL wF L s) ∧ Frm w w' := by
  have HT : Hid _ := hv
  obtain ⟨a, cp, rfl, hl, hm, hnil, hx⟩ := hv
  unfold maxLen at hm
  clear hx hnil
  have HFK : Hid (∀ k, Fits (wK wF L s k)) := fits_k wF up_f L s hfit
  have h0 := HFK.out 0
  rw [wK_zero] at h0
  have HC0 := wnum_any B M s L.length w0 w H (by unfold Is64; omega) (Fits.down h0 (up_n _)).1
  clear h0
  go_enter Tryz.func52, Tryz.ntmps52
  go_wp2_with fail
  refine HC0.mono ?_
  rintro e w1 ⟨rfl, H1, F1⟩
  clear HC0
  go_wp2_with fail
  go_loopw [14] (fun i wr => ∃ k : Nat, k ≤ L.length ∧ i = .int .i64 k ∧ Wrt w0 wr B M (wK wF L s k) ∧ Frm w wr) (fun i _ => L.length - (intOf i).toNat)
  case atStart => exact ⟨0, by omega, rfl, H1, F1⟩
  case round =>
    clear H H1 F1
    obtain ⟨k, hk, rfl, H, hfr⟩ := hrel
    by_cases hlk : k < L.length
    · obtain ⟨aa, cc, ev, _, _, _, hx9⟩ := Sl.later fieldE_stable HT.out H.bel
      simp only [Value.slice.injEq, true_and] at ev
      obtain ⟨rfl, rfl⟩ := ev
      obtain ⟨b9, off9, rfl, _, hx9⟩ := hx9 (by omega)
      have HK : Hid _ := wK_succ wF L s k hlk
      have hfk := HFK.out (k + 1)
      rw [HK.out] at hfk
      have hkx := hok _ (List.getElem_mem hlk)
      have hcell := hx9 k hlk
      clear hx9
      generalize L[k] = X at *
      obtain ⟨nm, ty, st⟩ := X
      obtain ⟨x0, x1, x2, s0, s1⟩ := hcell
      simp only at x0 x1 x2
      generalize wK wF L s k = sk at *
      have ka := alloc1 wr (.cells #[.string nm, .string ty, .bool st] 40)
      have HC := wfield_any B M sk nm ty st w0 (wr.alloc (.cells #[.string nm, .string ty, .bool st] 40)) (H.later ka) hkx hfk
      clear hfk H
      go_wp2_with fail
      refine HC.mono ?_
      rintro e w2 ⟨rfl, H2, F2⟩
      have F3 := hfr.trans ((Frm.below ka).trans F2)
      go_wp2_with fail
      go_roundw
      case rel => exact ⟨k + 1, by omega, by go_num, by rw [HK.out]; exact H2, F3⟩
      case measure => simp [intOf]; omega
    · have HE : Hid _ := wK_end wF L s k (by omega)
      go_wp2_with fail
      go_returns
      exact ⟨rfl, by rw [← HE.out]; exact H, hfr⟩
set_option maxHeartbeats 4000000 in
theorem wli_any (B M : Nat) (L : List InsL) (v : Value) (s : WS) (w0 w : World) (H : Wrt w0 w B M s) (hv : Sl insE 4 w0 v L) (hok : ∀ x ∈ L, okI x) (hfit : Fits (wL wI L s)) :
    Calls Tryz.prog 81 #[.pointer (some ⟨B, 0, none⟩), v, .func (.func 82) #[.pointer (some ⟨B, 0, none⟩)] #[]] w fun e w' => e = .returned (.tuple #[]) ∧ Wrt w0 w' B M (wL wI L s) ∧ Frm w w' := by
  have HT : Hid _ := hv
  obtain ⟨a, cp, rfl, hl, hm, hnil, hx⟩ := hv
  unfold maxLen at hm
  clear hx hnil
  have HFK : Hid (∀ k, Fits (wK wI L s k)) := fits_k wI up_i L s hfit
  have h0 := HFK.out 0
  rw [wK_zero] at h0
  have HC0 := wnum_any B M s L.length w0 w H (by unfold Is64; omega) (Fits.down h0 (up_n _)).1
  clear h0
  go_enter Tryz.func81, Tryz.ntmps81
  go_wp2_with fail
  refine HC0.mono ?_
  rintro e w1 ⟨rfl, H1, F1⟩
  clear HC0
  go_wp2_with fail
  go_loopw [14] (fun i wr => ∃ k : Nat, k ≤ L.length ∧ i = .int .i64 k ∧ Wrt w0 wr B M (wK wI L s k) ∧ Frm w wr) (fun i _ => L.length - (intOf i).toNat)
  case atStart => exact ⟨0, by omega, rfl, H1, F1⟩
  case round =>
    clear H H1 F1
    obtain ⟨k, hk, rfl, H, hfr⟩ := hrel
    by_cases hlk : k < L.length
    · obtain ⟨aa, cc, ev, _, _, _, hx9⟩ := Sl.later insE_stable HT.out H.bel
      simp only [Value.slice.injEq, true_and] at ev
      obtain ⟨rfl, rfl⟩ := ev
      obtain ⟨b9, off9, rfl, _, hx9⟩ := hx9 (by omega)
      have HK : Hid _ := wK_succ wI L s k hlk
      have hfk := HFK.out (k + 1)
      rw [HK.out] at hfk
      have hkx := hok _ (List.getElem_mem hlk)
      have hcell := hx9 k hlk
      clear hx9
      generalize L[k] = X at *
      obtain ⟨o, a, c, m⟩ := X
      obtain ⟨⟨x0, x1, x2, x3⟩, s0, s1⟩ := hcell
      simp only at x0 x1 x2 x3
      generalize wK wI L s k = sk at *
      have ka := alloc1 wr (.cells #[.int .i64 o, .int .i64 a, .string c, .string m] 48)
      have HC := wins_any B M sk o a c m w0 (wr.alloc (.cells #[.int .i64 o, .int .i64 a, .string c, .string m] 48)) (H.later ka) hkx hfk
      clear hfk H
      go_wp2_with fail
      refine HC.mono ?_
      rintro e w2 ⟨rfl, H2, F2⟩
      have F3 := hfr.trans ((Frm.below ka).trans F2)
      go_wp2_with fail
      go_roundw
      case rel => exact ⟨k + 1, by omega, by go_num, by rw [HK.out]; exact H2, F3⟩
      case measure => simp [intOf]; omega
    · have HE : Hid _ := wK_end wI L s k (by omega)
      go_wp2_with fail
      go_returns
      exact ⟨rfl, by rw [← HE.out]; exact H, hfr⟩
set_option maxHeartbeats 4000000 in
theorem wlr_any (B M : Nat) (L : List TrapL) (v : Value) (s : WS) (w0 w : World) (H : Wrt w0 w B M s) (hv : Sl trapE 4 w0 v L) (hok : ∀ x ∈ L, okR x) (hfit : Fits (wL wR L s)) :
    Calls Tryz.prog 85 #[.pointer (some ⟨B, 0, none⟩), v, .func (.func 86) #[.pointer (some ⟨B, 0, none⟩)] #[]] w fun e w' => e = .returned (.tuple #[]) ∧ Wrt w0 w' B M (wL wR L s) ∧ Frm w w' := by
  have HT : Hid _ := hv
  obtain ⟨a, cp, rfl, hl, hm, hnil, hx⟩ := hv
  unfold maxLen at hm
  clear hx hnil
  have HFK : Hid (∀ k, Fits (wK wR L s k)) := fits_k wR up_r L s hfit
  have h0 := HFK.out 0
  rw [wK_zero] at h0
  have HC0 := wnum_any B M s L.length w0 w H (by unfold Is64; omega) (Fits.down h0 (up_n _)).1
  clear h0
  go_enter Tryz.func85, Tryz.ntmps85
  go_wp2_with fail
  refine HC0.mono ?_
  rintro e w1 ⟨rfl, H1, F1⟩
  clear HC0
  go_wp2_with fail
  go_loopw [14] (fun i wr => ∃ k : Nat, k ≤ L.length ∧ i = .int .i64 k ∧ Wrt w0 wr B M (wK wR L s k) ∧ Frm w wr) (fun i _ => L.length - (intOf i).toNat)
  case atStart => exact ⟨0, by omega, rfl, H1, F1⟩
  case round =>
    clear H H1 F1
    obtain ⟨k, hk, rfl, H, hfr⟩ := hrel
    by_cases hlk : k < L.length
    · obtain ⟨aa, cc, ev, _, _, _, hx9⟩ := Sl.later trapE_stable HT.out H.bel
      simp only [Value.slice.injEq, true_and] at ev
      obtain ⟨rfl, rfl⟩ := ev
      obtain ⟨b9, off9, rfl, _, hx9⟩ := hx9 (by omega)
      have HK : Hid _ := wK_succ wR L s k hlk
      have hfk := HFK.out (k + 1)
      rw [HK.out] at hfk
      have hkx := hok _ (List.getElem_mem hlk)
      have hcell := hx9 k hlk
      clear hx9
      generalize L[k] = X at *
      obtain ⟨f, t, at9, c⟩ := X
      obtain ⟨x0, x1, x2, x3, s0⟩ := hcell
      simp only at x0 x1 x2 x3
      generalize wK wR L s k = sk at *
      have ka := alloc1 wr (.cells #[.int .i64 f, .int .i64 t, .int .i64 at9, .string c] 80)
      have HC := wtrap_any B M sk f t at9 c w0 (wr.alloc (.cells #[.int .i64 f, .int .i64 t, .int .i64 at9, .string c] 80)) (H.later ka) hkx hfk
      clear hfk H
      go_wp2_with fail
      refine HC.mono ?_
      rintro e w2 ⟨rfl, H2, F2⟩
      have F3 := hfr.trans ((Frm.below ka).trans F2)
      go_wp2_with fail
      go_roundw
      case rel => exact ⟨k + 1, by omega, by go_num, by rw [HK.out]; exact H2, F3⟩
      case measure => simp [intOf]; omega
    · have HE : Hid _ := wK_end wR L s k (by omega)
      go_wp2_with fail
      go_returns
      exact ⟨rfl, by rw [← HE.out]; exact H, hfr⟩
end Fil
end Go.Proofs.YtjblmgdjaaeedaaGreat

/- The contracts of file's writer: lists of Maps, methods, classes. (Written by tools/gen/genwrite.py.) -/
namespace Go.Proofs.YtjblmgdjaaeedaaGreat
namespace Fil
open Num Kind Op4 Cls
open Go.RowKit
set_option linter.unusedVariables false
set_option linter.unusedSimpArgs false
set_option maxRecDepth 100000

set_option maxHeartbeats 4000000 in
theorem wlx_any (B M : Nat) (L : List MapL) (v : Value) (s : WS) (w0 w : World) (H : Wrt w0 w B M s) (hv : Sl mapE 3 w0 v L) (hok : ∀ x ∈ L, okX x) (hfit : Fits (wL wX L s)) :
    Calls Tryz.prog 83 #[.pointer (some ⟨B, 0, none⟩), v, .func (.func 84) #[.pointer (some ⟨B, 0, none⟩)] #[]] w fun e w' => e = .returned (.tuple #[]) ∧ Wrt w0 w' B M (wL wX L s) ∧ Frm w w' := by
  have HT : Hid _ := hv
  obtain ⟨a, cp, rfl, hl, hm, hnil, hx⟩ := hv
  unfold maxLen at hm
  clear hx hnil
  have HFK : Hid (∀ k, Fits (wK wX L s k)) := fits_k wX up_x L s hfit
  have h0 := HFK.out 0
  rw [wK_zero] at h0
  have HC0 := wnum_any B M s L.length w0 w H (by unfold Is64; omega) (Fits.down h0 (up_n _)).1
  clear h0
  go_enter Tryz.func83, Tryz.ntmps83
  go_wp2_with fail
  refine HC0.mono ?_
  rintro e w1 ⟨rfl, H1, F1⟩
  clear HC0
  go_wp2_with fail
  go_loopw [14] (fun i wr => ∃ k : Nat, k ≤ L.length ∧ i = .int .i64 k ∧ Wrt w0 wr B M (wK wX L s k) ∧ Frm w wr) (fun i _ => L.length - (intOf i).toNat)
  case atStart => exact ⟨0, by omega, rfl, H1, F1⟩
  case round =>
    clear H H1 F1
    obtain ⟨k, hk, rfl, H, hfr⟩ := hrel
    by_cases hlk : k < L.length
    · obtain ⟨aa, cc, ev, _, _, _, hx9⟩ := HT.out
      simp only [Value.slice.injEq, true_and] at ev
      obtain ⟨rfl, rfl⟩ := ev
      obtain ⟨b9, off9, rfl, _, hx9⟩ := hx9 (by omega)
      have HK : Hid _ := wK_succ wX L s k hlk
      have hfk := HFK.out (k + 1)
      rw [HK.out] at hfk
      have hkx := hok _ (List.getElem_mem hlk)
      have hcell := hx9 k hlk
      clear hx9
      generalize L[k] = X at *
      obtain ⟨at9, lo, st⟩ := X
      obtain ⟨v1, v2, y0, y1, y2, hs1, hs2⟩ := hcell
      have x0 := cellOn y0 H.bel
      have x1 := cellOn y1 H.bel
      have x2 := cellOn y2 H.bel
      have HS1 : Hid _ := hs1
      have HS2 : Hid _ := hs2
      obtain ⟨q1, d1, rfl, _⟩ := hs1
      obtain ⟨q2, d2, rfl, _⟩ := hs2
      simp only at x0 x1 x2
      clear y0 y1 y2
      generalize wK wX L s k = sk at *
      have ka := alloc1 wr (.cells #[.int .i64 at9, .slice q1 lo.length d1, .slice q2 st.length d2] 50)
      have HC := wmap_any B M sk at9 lo st _ _ w0 (wr.alloc (.cells #[.int .i64 at9, .slice q1 lo.length d1, .slice q2 st.length d2] 50)) (H.later ka) HS1.out HS2.out hkx hfk
      clear hfk H
      go_wp2_with fail
      refine HC.mono ?_
      rintro e w2 ⟨rfl, H2, F2⟩
      have F3 := hfr.trans ((Frm.below ka).trans F2)
      go_wp2_with fail
      go_roundw
      case rel => exact ⟨k + 1, by omega, by go_num, by rw [HK.out]; exact H2, F3⟩
      case measure => simp [intOf]; omega
    · have HE : Hid _ := wK_end wX L s k (by omega)
      go_wp2_with fail
      go_returns
      exact ⟨rfl, by rw [← HE.out]; exact H, hfr⟩
set_option maxHeartbeats 8000000 in
theorem wmeth_any (B M : Nat) (s : WS) (nm : ByteArray) (ps : List ByteArray) (rt : ByteArray) (st ab : Bool) (lo sk : Int) (code : List InsL) (maps : List MapL) (traps : List TrapL) (v1 v7 v8 v9 : Value) (w0 w : World) (H : Wrt w0 w B M s) (hv : MethV w0 v1 v7 v8 v9 (⟨nm, ps, rt, st, ab, lo, sk, code, maps, traps⟩ : MethL)) (hok : okM (⟨nm, ps, rt, st, ab, lo, sk, code, maps, traps⟩ : MethL)) (hfit : Fits (wM (⟨nm, ps, rt, st, ab, lo, sk, code, maps, traps⟩ : MethL) s)) :
    Calls Tryz.prog 55 #[.pointer (some ⟨B, 0, none⟩), .agg #[.string nm, v1, .string rt, .bool st, .bool ab, .int .i64 lo, .int .i64 sk, v7, v8, v9]] w fun e w' => e = .returned (.tuple #[]) ∧ Wrt w0 w' B M (wM (⟨nm, ps, rt, st, ab, lo, sk, code, maps, traps⟩ : MethL) s) ∧ Frm w w' := by
  have ka := alloc1 w (.cells #[.string nm, v1, .string rt, .bool st, .bool ab, .int .i64 lo, .int .i64 sk, v7, v8, v9] 46)
  have BX0 := blk_new w #[.string nm, v1, .string rt, .bool st, .bool ab, .int .i64 lo, .int .i64 sk, v7, v8, v9] 46
  have H0 := H.later ka
  have F0 := Frm.below ka
  obtain ⟨k0, k2, k5, k6, k1, k7, k8, k9⟩ := hok
  unfold wM wM1 at hfit ⊢
  dsimp only at *
  have t10 := hfit
  have t9 := Fits.down t10 (up_l wR up_r _)
  have t8 := Fits.down t9 (up_l wX up_x _)
  have t7 := Fits.down t8 (up_l wI up_i _)
  have t6 := Fits.down t7 (up_n _)
  have t5 := Fits.down t6 (up_n _)
  have t4 := Fits.down t5 (up_b _)
  have t3 := Fits.down t4 (up_b _)
  have t2 := Fits.down t3 (up_t _)
  have t1 := Fits.down t2 (up_l wT up_t _)
  have t0 := Fits.down t1 (up_t _)
  clear hfit H ka
  have HC0 := wtext_any B M s nm w0 (w.alloc (.cells #[.string nm, v1, .string rt, .bool st, .bool ab, .int .i64 lo, .int .i64 sk, v7, v8, v9] 46)) H0 (okT_max k0) t0.1 t0.2
  clear t0
  go_enter Tryz.func55, Tryz.ntmps55
  go_wp2_with fail
  refine HC0.mono ?_
  rintro e w1 ⟨rfl, H1, F1⟩
  have BX1 := blk_frm BX0 F1
  have F1 := F0.trans F1
  clear HC0 BX0 F0 H0
  have x1 := blk_cell BX1 1
  simp only [List.getElem?_toArray, List.getElem?_cons_zero, List.getElem?_cons_succ] at x1
  have HC1 := wls_any B M ps v1 _ w0 w1 H1 hv.params k1.2 t2
  clear t1 H1
  go_wp2_with fail
  refine HC1.mono ?_
  rintro e w2 ⟨rfl, H2, F2⟩
  have BX2 := blk_frm BX1 F2
  have F2 := F1.trans F2
  clear HC1 BX1 F1 x1
  have x2 := blk_cell BX2 2
  simp only [List.getElem?_toArray, List.getElem?_cons_zero, List.getElem?_cons_succ] at x2
  have HC2 := wtext_any B M _ rt w0 w2 H2 (okT_max k2) t2.1 t2.2
  clear t2 H2
  go_wp2_with fail
  refine HC2.mono ?_
  rintro e w3 ⟨rfl, H3, F3⟩
  have BX3 := blk_frm BX2 F3
  have F3 := F2.trans F3
  clear HC2 BX2 F2 x2
  have x3 := blk_cell BX3 3
  simp only [List.getElem?_toArray, List.getElem?_cons_zero, List.getElem?_cons_succ] at x3
  have HC3 := wtruth_any B M _ st w0 w3 H3 t3.1
  clear t3 H3
  go_wp2_with fail
  refine HC3.mono ?_
  rintro e w4 ⟨rfl, H4, F4⟩
  have BX4 := blk_frm BX3 F4
  have F4 := F3.trans F4
  clear HC3 BX3 F3 x3
  have x4 := blk_cell BX4 4
  simp only [List.getElem?_toArray, List.getElem?_cons_zero, List.getElem?_cons_succ] at x4
  have HC4 := wtruth_any B M _ ab w0 w4 H4 t4.1
  clear t4 H4
  go_wp2_with fail
  refine HC4.mono ?_
  rintro e w5 ⟨rfl, H5, F5⟩
  have BX5 := blk_frm BX4 F5
  have F5 := F4.trans F5
  clear HC4 BX4 F4 x4
  have x5 := blk_cell BX5 5
  simp only [List.getElem?_toArray, List.getElem?_cons_zero, List.getElem?_cons_succ] at x5
  have HC5 := wnum_any B M _ lo w0 w5 H5 k5 t5.1
  clear t5 H5
  go_wp2_with fail
  refine HC5.mono ?_
  rintro e w6 ⟨rfl, H6, F6⟩
  have BX6 := blk_frm BX5 F6
  have F6 := F5.trans F6
  clear HC5 BX5 F5 x5
  have x6 := blk_cell BX6 6
  simp only [List.getElem?_toArray, List.getElem?_cons_zero, List.getElem?_cons_succ] at x6
  have HC6 := wnum_any B M _ sk w0 w6 H6 k6 t6.1
  clear t6 H6
  go_wp2_with fail
  refine HC6.mono ?_
  rintro e w7 ⟨rfl, H7, F7⟩
  have BX7 := blk_frm BX6 F7
  have F7 := F6.trans F7
  clear HC6 BX6 F6 x6
  have x7 := blk_cell BX7 7
  simp only [List.getElem?_toArray, List.getElem?_cons_zero, List.getElem?_cons_succ] at x7
  have HC7 := wli_any B M code v7 _ w0 w7 H7 hv.code k7.2 t8
  clear t7 H7
  go_wp2_with fail
  refine HC7.mono ?_
  rintro e w8 ⟨rfl, H8, F8⟩
  have BX8 := blk_frm BX7 F8
  have F8 := F7.trans F8
  clear HC7 BX7 F7 x7
  have x8 := blk_cell BX8 8
  simp only [List.getElem?_toArray, List.getElem?_cons_zero, List.getElem?_cons_succ] at x8
  have HC8 := wlx_any B M maps v8 _ w0 w8 H8 hv.maps k8.2 t9
  clear t8 H8
  go_wp2_with fail
  refine HC8.mono ?_
  rintro e w9 ⟨rfl, H9, F9⟩
  have BX9 := blk_frm BX8 F9
  have F9 := F8.trans F9
  clear HC8 BX8 F8 x8
  have x9 := blk_cell BX9 9
  simp only [List.getElem?_toArray, List.getElem?_cons_zero, List.getElem?_cons_succ] at x9
  have HC9 := wlr_any B M traps v9 _ w0 w9 H9 hv.traps k9.2 t10
  clear t9 H9
  go_wp2_with fail
  refine HC9.mono ?_
  rintro e w10 ⟨rfl, H10, F10⟩
  have BX10 := blk_frm BX9 F10
  have F10 := F9.trans F10
  clear HC9 BX9 F9 x9
  go_wp2_with fail
  go_returns
  exact ⟨rfl, H10, F10⟩
set_option maxHeartbeats 4000000 in
theorem wlm_any (B M : Nat) (L : List MethL) (v : Value) (s : WS) (w0 w : World) (H : Wrt w0 w B M s) (hv : Sl methE 10 w0 v L) (hok : ∀ x ∈ L, okM x) (hfit : Fits (wL wM L s)) :
    Calls Tryz.prog 54 #[.pointer (some ⟨B, 0, none⟩), v, .func (.func 55) #[.pointer (some ⟨B, 0, none⟩)] #[]] w fun e w' => e = .returned (.tuple #[]) ∧ Wrt w0 w' B M (wL wM L s) ∧ Frm w w' := by
  have HT : Hid _ := hv
  obtain ⟨a, cp, rfl, hl, hm, hnil, hx⟩ := hv
  unfold maxLen at hm
  clear hx hnil
  have HFK : Hid (∀ k, Fits (wK wM L s k)) := fits_k wM up_m L s hfit
  have h0 := HFK.out 0
  rw [wK_zero] at h0
  have HC0 := wnum_any B M s L.length w0 w H (by unfold Is64; omega) (Fits.down h0 (up_n _)).1
  clear h0
  go_enter Tryz.func54, Tryz.ntmps54
  go_wp2_with fail
  refine HC0.mono ?_
  rintro e w1 ⟨rfl, H1, F1⟩
  clear HC0
  go_wp2_with fail
  go_loopw [14] (fun i wr => ∃ k : Nat, k ≤ L.length ∧ i = .int .i64 k ∧ Wrt w0 wr B M (wK wM L s k) ∧ Frm w wr) (fun i _ => L.length - (intOf i).toNat)
  case atStart => exact ⟨0, by omega, rfl, H1, F1⟩
  case round =>
    clear H H1 F1
    obtain ⟨k, hk, rfl, H, hfr⟩ := hrel
    by_cases hlk : k < L.length
    · obtain ⟨aa, cc, ev, _, _, _, hx9⟩ := HT.out
      simp only [Value.slice.injEq, true_and] at ev
      obtain ⟨rfl, rfl⟩ := ev
      obtain ⟨b9, off9, rfl, _, hx9⟩ := hx9 (by omega)
      have HK : Hid _ := wK_succ wM L s k hlk
      have hfk := HFK.out (k + 1)
      rw [HK.out] at hfk
      have hkx := hok _ (List.getElem_mem hlk)
      have hcell := hx9 k hlk
      clear hx9
      generalize L[k] = X at *
      obtain ⟨nm, ps, rt, st, ab, lo, sk9, code, maps, traps⟩ := X
      obtain ⟨v1, v7, v8, v9, hmv, hce⟩ := hcell
      have hce2 : ∀ j, j < 10 → wr.cell? ⟨b9, off9 + k * 10 + j, none⟩ = (methCells v1 v7 v8 v9 ⟨nm, ps, rt, st, ab, lo, sk9, code, maps, traps⟩)[j]? := fun j hj => by
        have := hce j hj
        have hj' : j < (methCells v1 v7 v8 v9 ⟨nm, ps, rt, st, ab, lo, sk9, code, maps, traps⟩).size := by simpa [methCells] using hj
        rw [Array.getElem?_eq_getElem hj'] at this ⊢
        exact cellOn this H.bel
      have HMV : Hid _ := hmv
      obtain ⟨hs1, hs7, hs8, hs9, _, _⟩ := hmv
      obtain ⟨q1, d1, rfl, _⟩ := hs1
      obtain ⟨q7, d7, rfl, _⟩ := hs7
      obtain ⟨q8, d8, rfl, _⟩ := hs8
      obtain ⟨q9, d9, rfl, _⟩ := hs9
      have x0 := hce2 0 (by decide)
      have x1 := hce2 1 (by decide)
      have x2 := hce2 2 (by decide)
      have x3 := hce2 3 (by decide)
      have x4 := hce2 4 (by decide)
      have x5 := hce2 5 (by decide)
      have x6 := hce2 6 (by decide)
      have x7 := hce2 7 (by decide)
      have x8 := hce2 8 (by decide)
      have x9 := hce2 9 (by decide)
      simp only [methCells, List.getElem?_toArray, List.getElem?_cons_zero, List.getElem?_cons_succ, Nat.add_zero] at x0 x1 x2 x3 x4 x5 x6 x7 x8 x9
      clear hce hce2
      generalize wK wM L s k = sk at *
      have ka := alloc1 wr (.cells #[.string nm, .slice q1 ps.length d1, .string rt, .bool st, .bool ab, .int .i64 lo, .int .i64 sk9, .slice q7 code.length d7, .slice q8 maps.length d8, .slice q9 traps.length d9] 46)
      have HC := wmeth_any B M sk nm ps rt st ab lo sk9 code maps traps _ _ _ _ w0 (wr.alloc (.cells #[.string nm, .slice q1 ps.length d1, .string rt, .bool st, .bool ab, .int .i64 lo, .int .i64 sk9, .slice q7 code.length d7, .slice q8 maps.length d8, .slice q9 traps.length d9] 46)) (H.later ka) HMV.out hkx hfk
      clear hfk H
      go_wp2_with fail
      refine HC.mono ?_
      rintro e w2 ⟨rfl, H2, F2⟩
      have F3 := hfr.trans ((Frm.below ka).trans F2)
      go_wp2_with fail
      go_roundw
      case rel => exact ⟨k + 1, by omega, by go_num, by rw [HK.out]; exact H2, F3⟩
      case measure => simp [intOf]; omega
    · have HE : Hid _ := wK_end wM L s k (by omega)
      go_wp2_with fail
      go_returns
      exact ⟨rfl, by rw [← HE.out]; exact H, hfr⟩
set_option maxHeartbeats 8000000 in
theorem wcls_any (B M : Nat) (s : WS) (nm sp : ByteArray) (ifc : Bool) (impl : List ByteArray) (fields : List FieldL) (methods : List MethL) (v3 v4 v5 : Value) (w0 w : World) (H : Wrt w0 w B M s) (hv : ClsV w0 v3 v4 v5 (⟨nm, sp, ifc, impl, fields, methods⟩ : ClsL)) (hok : okC (⟨nm, sp, ifc, impl, fields, methods⟩ : ClsL)) (hfit : Fits (wC (⟨nm, sp, ifc, impl, fields, methods⟩ : ClsL) s)) :
    Calls Tryz.prog 23 #[.pointer (some ⟨B, 0, none⟩), .agg #[.string nm, .string sp, .bool ifc, v3, v4, v5]] w fun e w' => e = .returned (.tuple #[]) ∧ Wrt w0 w' B M (wC (⟨nm, sp, ifc, impl, fields, methods⟩ : ClsL) s) ∧ Frm w w' := by
  have ka := alloc1 w (.cells #[.string nm, .string sp, .bool ifc, v3, v4, v5] 26)
  have BX0 := blk_new w #[.string nm, .string sp, .bool ifc, v3, v4, v5] 26
  have H0 := H.later ka
  have F0 := Frm.below ka
  obtain ⟨k0, k1, k3, k4, k5⟩ := hok
  unfold wC at hfit ⊢
  dsimp only at *
  have t6 := hfit
  have t5 := Fits.down t6 (up_l wM up_m _)
  have t4 := Fits.down t5 (up_l wF up_f _)
  have t3 := Fits.down t4 (up_l wT up_t _)
  have t2 := Fits.down t3 (up_b _)
  have t1 := Fits.down t2 (up_t _)
  have t0 := Fits.down t1 (up_t _)
  clear hfit H ka
  have HC0 := wtext_any B M s nm w0 (w.alloc (.cells #[.string nm, .string sp, .bool ifc, v3, v4, v5] 26)) H0 (okT_max k0) t0.1 t0.2
  clear t0
  go_enter Tryz.func23, Tryz.ntmps23
  go_wp2_with fail
  refine HC0.mono ?_
  rintro e w1 ⟨rfl, H1, F1⟩
  have BX1 := blk_frm BX0 F1
  have F1 := F0.trans F1
  clear HC0 BX0 F0 H0
  have x1 := blk_cell BX1 1
  simp only [List.getElem?_toArray, List.getElem?_cons_zero, List.getElem?_cons_succ] at x1
  have HC1 := wtext_any B M _ sp w0 w1 H1 (okT_max k1) t1.1 t1.2
  clear t1 H1
  go_wp2_with fail
  refine HC1.mono ?_
  rintro e w2 ⟨rfl, H2, F2⟩
  have BX2 := blk_frm BX1 F2
  have F2 := F1.trans F2
  clear HC1 BX1 F1 x1
  have x2 := blk_cell BX2 2
  simp only [List.getElem?_toArray, List.getElem?_cons_zero, List.getElem?_cons_succ] at x2
  have HC2 := wtruth_any B M _ ifc w0 w2 H2 t2.1
  clear t2 H2
  go_wp2_with fail
  refine HC2.mono ?_
  rintro e w3 ⟨rfl, H3, F3⟩
  have BX3 := blk_frm BX2 F3
  have F3 := F2.trans F3
  clear HC2 BX2 F2 x2
  have x3 := blk_cell BX3 3
  simp only [List.getElem?_toArray, List.getElem?_cons_zero, List.getElem?_cons_succ] at x3
  have HC3 := wls_any B M impl v3 _ w0 w3 H3 hv.impl k3.2 t4
  clear t3 H3
  go_wp2_with fail
  refine HC3.mono ?_
  rintro e w4 ⟨rfl, H4, F4⟩
  have BX4 := blk_frm BX3 F4
  have F4 := F3.trans F4
  clear HC3 BX3 F3 x3
  have x4 := blk_cell BX4 4
  simp only [List.getElem?_toArray, List.getElem?_cons_zero, List.getElem?_cons_succ] at x4
  have HC4 := wlf_any B M fields v4 _ w0 w4 H4 hv.fields k4.2 t5
  clear t4 H4
  go_wp2_with fail
  refine HC4.mono ?_
  rintro e w5 ⟨rfl, H5, F5⟩
  have BX5 := blk_frm BX4 F5
  have F5 := F4.trans F5
  clear HC4 BX4 F4 x4
  have x5 := blk_cell BX5 5
  simp only [List.getElem?_toArray, List.getElem?_cons_zero, List.getElem?_cons_succ] at x5
  have HC5 := wlm_any B M methods v5 _ w0 w5 H5 hv.methods k5.2 t6
  clear t5 H5
  go_wp2_with fail
  refine HC5.mono ?_
  rintro e w6 ⟨rfl, H6, F6⟩
  have BX6 := blk_frm BX5 F6
  have F6 := F5.trans F6
  clear HC5 BX5 F5 x5
  go_wp2_with fail
  go_returns
  exact ⟨rfl, H6, F6⟩
end Fil
end Go.Proofs.YtjblmgdjaaeedaaGreat
