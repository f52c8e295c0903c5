/- Contracts and laws, texts of mine put into one. -/
import Derived.Test.YtjblmgdjaaeedaaGreatFilW
import Derived.Test.YtjblmgdjaaeedaaGreatFilWhole
/- The contracts of the document's own writer: num, truth, text, texts. -/
namespace Go.Proofs.YtjblmgdjaaeedaaGreat
namespace Fil
open Num Kind Op4 Cls
open Go.RowKit
set_option linter.unusedVariables false
set_option linter.unusedSimpArgs false
set_option maxRecDepth 100000

/-- The document's writer in block B. -/
structure Rwr (w0 w : World) (B : Nat) (s : WS) : Prop where
  bel : Below w0.heap.size w0 w
  lo : w0.heap.size ≤ B
  rows : ∃ v0 v1, w.heap[B]? = some (.cells #[v1, v0] 66 (0, 0)) ∧ w.ownsRow w0.heap.size 5 1 v0 s.out.length (cellsOf s.out) ∧ w.ownsRow w0.heap.size 9 1 v1 s.pool.length (strs s.pool)
/-- Blocks that are none of that writer's stay as they are. -/
def Frr (w w' : World) : Prop := ∀ (b : Nat) (cs : Array Value) (T : Nat) (fr : Nat × Nat), w.heap[b]? = some (.cells cs T fr) → T ≠ 66 → T ≠ 5 → T ≠ 9 → w'.heap[b]? = some (.cells cs T fr)
theorem Frr.refl (w : World) : Frr w w := fun b cs T fr h _ _ _ => h
theorem Frr.trans {a b c : World} (h : Frr a b) (h' : Frr b c) : Frr a c := fun k cs T fr h0 h1 h2 h3 => h' k cs T fr (h k cs T fr h0 h1 h2 h3) h1 h2 h3
theorem Frr.below {w w' : World} (h : Below w.heap.size w w') : Frr w w' := fun b cs T fr h0 _ _ _ => by
  rw [h.block b (lt_of_block h0)]
  exact h0
theorem Frr.grown {w w' : World} {row : Option Nat} (h : w.grownBy w' row) (hr : ∀ (g : Nat) (cs : Array Value) (T : Nat) (fr : Nat × Nat), row = some g → w.heap[g]? = some (.cells cs T fr) → T = 66 ∨ T = 5 ∨ T = 9) : Frr w w' := fun b cs T fr h0 h1 h2 h3 => by
  rw [h.block b (lt_of_block h0) (fun e => by rcases hr b cs T fr e.symm h0 with h | h | h <;> contradiction)]
  exact h0
theorem Frr.set {w : World} {B : Nat} {cs : Array Value} {T : Nat} (hb : w.heap[B]? = some (.cells cs T (0, 0))) (hT : T = 66) (j : Nat) (u : Value) : Frr w (w.setCell ⟨B, j, none⟩ u) := fun b cs' T' fr h0 h1 h2 h3 => by
  rw [Below.heap_setCell _ _ _ _ (fun e => ?_)]
  · exact h0
  · have e' : b = B := e
    subst e'
    rw [hb] at h0
    simp at h0
    exact h1 (h0.2.1.symm.trans hT)
theorem blk_frr {w w' : World} {B T : Nat} {cs : Array Value} (h : w.heap[B]? = some (.cells cs T (0, 0))) (hf : Frr w w') (h1 : T ≠ 66 := by decide) (h2 : T ≠ 5 := by decide) (h3 : T ≠ 9 := by decide) : w'.heap[B]? = some (.cells cs T (0, 0)) := hf _ _ _ _ h h1 h2 h3
theorem Rwr.later {w0 w w' : World} {B : Nat} {s : WS} (h : Rwr w0 w B s) (hb : Below w.heap.size w w') : Rwr w0 w' B s := by
  obtain ⟨bel, lo, ⟨v0, v1, BB, own0, own1⟩⟩ := h
  exact ⟨bel.trans (hb.mono bel.size), lo, ⟨v0, v1, blk_on BB hb, own_later own0 hb, own_later own1 hb⟩⟩
theorem Rwr.store1 {w0 w w1 wE : World} {B : Nat} {s : WS} {v0 v1 V : Value} {m : Nat} {xs : List Int} (bel : Below w0.heap.size w0 w) (lo : w0.heap.size ≤ B)
    (BB : w.heap[B]? = some (.cells #[v1, v0] 66 (0, 0))) (own0 : w.ownsRow w0.heap.size 5 1 v0 s.out.length (cellsOf s.out)) (own1 : w.ownsRow w0.heap.size 9 1 v1 s.pool.length (strs s.pool))
    (kk : Below w.heap.size w w1) (gE : w1.grownBy wE v0.ownBlock)
    (oE : wE.ownsRow w0.heap.size 5 1 V m (cellsOf xs)) (hm : m = xs.length) : Rwr w0 (wE.setCell ⟨B, 1, none⟩ V) B ⟨s.pool, xs⟩ ∧ Frr w (wE.setCell ⟨B, 1, none⟩ V) := by
  subst hm
  have BBk := blk_on BB kk
  have own0k := own_later own0 kk
  have own1k := own_later own1 kk
  have hne := own_ne_blk own0k BBk (by decide)
  have BBE := blk_grown BBk gE hne
  have own1E := own1k.kept gE (own_apart own1k own0k (by decide))
  have bk := bel.trans (kk.mono bel.size)
  have bE := bk.grown gE bk.size (fun k e => (own0k.lt k e).1)
  refine ⟨⟨bE.setCell (p := ⟨B, 1, none⟩) lo _, lo, ⟨V, v1, blk_set BBE 1 V, ?_, ?_⟩⟩,
    ((Frr.below kk).trans (Frr.grown gE (fun g cs T fr e h => .inr (.inl (own_type own0k e h))))).trans (Frr.set BBE rfl 1 V)⟩
  · exact ownsRow_setCell_other oE (a := ⟨B, 1, none⟩) (fun e => own_ne_blk oE BBE (by decide) e.symm) _
  · exact ownsRow_setCell_other own1E (a := ⟨B, 1, none⟩) (fun e => own_ne_blk own1E BBE (by decide) e.symm) _
set_option maxHeartbeats 2000000 in
theorem vnum_any (B : Nat) (s : WS) (n : Int) (w0 w : World) (H : Rwr w0 w B s) (hn : Is64 n) (hs : s.out.length ≤ 100000000000) :
    Calls Tryz.prog 34 #[.pointer (some ⟨B, 0, none⟩), .int .i64 n] w fun e w' => e = .returned (.tuple #[]) ∧ Rwr w0 w' B (wN n s) ∧ Frr w w' := by
  obtain ⟨bel, lo, ⟨v0, v1, BB, own0, own1⟩⟩ := H
  obtain ⟨i0, hi, hz0, hz1, hz2⟩ := info_parts info8
  have hel := enc_len n
  have kk : Below w.heap.size w w.drew := (Below.refl _ _).drew
  have BBk := blk_on BB kk
  have x0 := blk_cell BBk 1
  have f0 := blk_free BBk 1
  simp only [List.getElem?_toArray, List.getElem?_cons_zero, List.getElem?_cons_succ] at x0
  go_enter Tryz.func34, Tryz.ntmps34
  go_region_law (first | (refine step_has rfl (.tmp 8) (.tmp 10) 29 rfl w0.heap.size i0 Tryz.underlying29 hi hz0 hz1 hz2 v0 s.out.length s.out (by simp [Act.eval, Act.put]) (own_later own0 kk) (some ⟨g, 0, none⟩) (enc n).length cap (enc n) (by simp [Act.eval, Act.put]) hE (by omega) (Nat.le_trans bel.size kk.size) ?_; intro aE cE wE oE hE2 gE; have BBE := blk_grown BBk gE (own_ne_blk own0 BB (by decide)); have x0 := blk_cell BBE 1; have f0 := blk_free BBE 1; simp only [List.getElem?_toArray, List.getElem?_cons_zero, List.getElem?_cons_succ] at x0) | (go_simp; go_wp2_with (go_at_call 36; refine (ref_put n _ hn).mono ?_; rintro e w' ⟨g, cap, rfl, own, b'⟩; have kk := kk.trans (b'.mono kk.size); have BBk := blk_on BB kk; have x0 := blk_cell BBk 1; have f0 := blk_free BBk 1; simp only [List.getElem?_toArray, List.getElem?_cons_zero, List.getElem?_cons_succ] at x0; have hE := Has.own own)))
  all_goals
    go_wp2_with fail
    go_returns
    exact ⟨rfl, Rwr.store1 bel lo BB own0 own1 kk gE oE (by simp)⟩
theorem vtruth_any (B : Nat) (s : WS) (q : Bool) (w0 w : World) (H : Rwr w0 w B s) (hs : s.out.length ≤ 100000000000) :
    Calls Tryz.prog 32 #[.pointer (some ⟨B, 0, none⟩), .bool q] w fun e w' => e = .returned (.tuple #[]) ∧ Rwr w0 w' B (wB q s) ∧ Frr w w' := by
  cases q
  · have HC := vnum_any B s 0 w0 w H (by unfold Is64; decide) hs
    go_enter Tryz.func32, Tryz.ntmps32
    go_wp2_with fail
    refine HC.mono ?_
    rintro e w1 ⟨rfl, H1, F1⟩
    go_wp2_with fail
    go_returns
    exact ⟨rfl, H1, F1⟩
  · have HC := vnum_any B s 1 w0 w H (by unfold Is64; decide) hs
    go_enter Tryz.func32, Tryz.ntmps32
    go_wp2_with fail
    refine HC.mono ?_
    rintro e w1 ⟨rfl, H1, F1⟩
    go_wp2_with fail
    go_returns
    exact ⟨rfl, H1, F1⟩
theorem Rwr.pooled {w0 w wE : World} {B : Nat} {s : WS} {v0 v1 V : Value} {t : ByteArray} {o : Obj} (bel : Below w0.heap.size w0 w) (lo : w0.heap.size ≤ B)
    (BB : w.heap[B]? = some (.cells #[v1, v0] 66 (0, 0))) (own0 : w.ownsRow w0.heap.size 5 1 v0 s.out.length (cellsOf s.out)) (own1 : w.ownsRow w0.heap.size 9 1 v1 s.pool.length (strs s.pool))
    (gE : (w.alloc o).grownBy wE v1.ownBlock)
    (oE : wE.ownsRow w0.heap.size 9 1 V (s.pool.length + 1) (strs s.pool ++ [.string t])) : Rwr w0 (wE.setCell ⟨B, 0, none⟩ V) B ⟨s.pool ++ [t], s.out⟩ ∧ Frr w (wE.setCell ⟨B, 0, none⟩ V) := by
  have ka := alloc1 w o
  have BBk := blk_on BB ka
  have own0k := own_later own0 ka
  have own1k := own_later own1 ka
  have BBE := blk_grown BBk gE (own_ne_blk own1k BBk (by decide))
  have own0E := own0k.kept gE (own_apart own0k own1k (by decide))
  have bk := bel.trans (ka.mono bel.size)
  have bE := bk.grown gE bk.size (fun k e => (own1k.lt k e).1)
  have e1 : (s.pool ++ [t]).length = s.pool.length + 1 := by simp
  have e2 : strs (s.pool ++ [t]) = strs s.pool ++ [.string t] := by simp [strs]
  refine ⟨⟨bE.setCell (p := ⟨B, 0, none⟩) lo _, lo, ⟨v0, V, blk_set BBE 0 V, ?_, ?_⟩⟩,
    ((Frr.below ka).trans (Frr.grown gE (fun g cs T fr e h => .inr (.inr (own_type own1k e h))))).trans (Frr.set BBE rfl 0 V)⟩
  · exact ownsRow_setCell_other own0E (a := ⟨B, 0, none⟩) (fun e => own_ne_blk own0E BBE (by decide) e.symm) _
  · show World.ownsRow _ _ _ _ _ (s.pool ++ [t]).length (strs (s.pool ++ [t]))
    rw [e1, e2]
    exact ownsRow_setCell_other oE (a := ⟨B, 0, none⟩) (fun e => own_ne_blk oE BBE (by decide) e.symm) _
/-- Where a text stands, searched on from a place. -/
theorem idx_at (p : List ByteArray) (t : ByteArray) : ∀ k, k ≤ idx p t → k < p.length → (p[k]? = some t → idx p t = k) ∧ (p[k]? ≠ some t → k + 1 ≤ idx p t) := by
  induction p with
  | nil => intro k _ h; simp at h
  | cons x r ih =>
    intro k hk hl
    unfold idx at hk ⊢
    cases k with
    | zero =>
      by_cases e : x = t
      · simp [e]
      · simp [e]
    | succ k =>
      by_cases e : x = t
      · simp [e] at hk
      · rw [if_neg e] at hk ⊢
        have := ih k (by omega) (by simpa using hl)
        simp only [List.getElem?_cons_succ]
        exact ⟨fun h => by rw [this.1 h], fun h => by have := this.2 h; omega⟩
theorem bne_str (a b : ByteArray) : (a.toList != b.toList) = !decide (a = b) := by
  rw [Lib.toList_data, Lib.toList_data]
  by_cases h : a = b
  · subst h; simp
  · have hd : a.data.toList ≠ b.data.toList := fun e => h (by cases a; cases b; congr 1; exact Array.toList_inj.1 e)
    simp [h, hd]
set_option maxHeartbeats 4000000 in
theorem vtext_any (B : Nat) (s : WS) (t : ByteArray) (w0 w : World) (H : Rwr w0 w B s) (hs : s.out.length ≤ 100000000000) (hp : s.pool.length ≤ 100000000000) :
    Calls Tryz.prog 31 #[.pointer (some ⟨B, 0, none⟩), .string t] w fun e w' => e = .returned (.tuple #[]) ∧ Rwr w0 w' B (wT t s) ∧ Frr w w' := by
  have HW : Hid _ := H
  obtain ⟨bel, lo, ⟨v0, v1, BB, own0, own1⟩⟩ := H
  obtain ⟨iS, hiS, hzS0, hzS1, hzS2⟩ := info_parts infoS
  have hle := idx_le s.pool t
  have x1 := blk_cell BB 0
  simp only [List.getElem?_toArray, List.getElem?_cons_zero, List.getElem?_cons_succ] at x1
  obtain ⟨a1, c1, rfl⟩ : ∃ a c, v1 = .slice a s.pool.length c := by
    rcases own1.2 with ⟨rfl, h0⟩ | ⟨g, cap, cur, rfl, _⟩
    · exact ⟨none, 0, by rw [h0]⟩
    · exact ⟨_, cap, rfl⟩
  have hcap : c1 ≤ maxLen ∧ s.pool.length ≤ c1 := by
    rcases own1.2 with ⟨e, _⟩ | ⟨g, cap, cur, e, _, _, h1, h2, _⟩
    · simp at e
      obtain ⟨_, e1, e2⟩ := e
      rw [e2, e1]
      exact ⟨Nat.zero_le _, Nat.le_refl _⟩
    · simp at e
      rw [e.2]
      exact ⟨h2, h1⟩
  unfold maxLen at hcap
  have HAT : Hid (∀ k (h : k < s.pool.length), ∃ g, a1 = some ⟨g, 0, none⟩ ∧ w.cell? ⟨g, k, none⟩ = some (.string s.pool[k])) := fun k h => by
    rcases own1.2 with ⟨e, h0⟩ | ⟨g, cap, cur, e, _⟩
    · omega
    · simp at e
      obtain ⟨rfl, rfl⟩ := e
      refine ⟨g, rfl, ?_⟩
      have := own1.cells (g := g) rfl k (.string s.pool[k]) (by simp [strs, List.getElem?_eq_getElem h])
      rwa [Addr.add_lit, Nat.zero_add] at this
  go_enter Tryz.func31, Tryz.ntmps31
  go_wp2_with fail
  go_loop [4] (fun i => ∃ k : Nat, k ≤ idx s.pool t ∧ i = .int .i64 k) (fun i => s.pool.length - (intOf i).toNat)
  case atStart => exact ⟨0, by omega, rfl⟩
  case round =>
    obtain ⟨k, hk, rfl⟩ := hrel
    by_cases hlk : k < s.pool.length
    · obtain ⟨g, rfl, z0⟩ := HAT.out k hlk
      have HI := idx_at s.pool t k hk hlk
      rw [List.getElem?_eq_getElem hlk] at HI
      have hbn := bne_str s.pool[k] t
      generalize s.pool[k] = X at *
      by_cases hX : X = t
      · have hI := HI.1 (by rw [hX])
        have hv : wT t s = wN (k : Int) s := by unfold wT wN; rw [if_pos (by omega), hI]
        have HC := vnum_any B s k w0 w HW.out (by unfold Is64; omega) hs
        rw [← hv] at HC
        have hbf : (X.toList == t.toList) = true := by rw [hX]; simp
        have dk : decide ((k : Int) < (s.pool.length : Int)) = true := by simp; omega
        have dk2 : ((k : Int) == (s.pool.length : Int)) = false := by rw [beq_eq_false_iff_ne]; omega
        clear hbn HI hv HAT
        subst hX
        go_wp2_with fail
        refine HC.mono ?_
        rintro e w1 ⟨rfl, H1, F1⟩
        go_wp2_with fail
        go_returns
        exact ⟨rfl, H1, F1⟩
      · have hI := HI.2 (fun e => hX (Option.some.inj e))
        have hbf : (X.toList == t.toList) = false := by have h2 := hbn; simp only [bne, hX, decide_false, Bool.not_false, Bool.not_eq_true'] at h2; exact h2
        have hbg : ¬ X.toList = t.toList := by simpa using hbf
        clear hbn HI HAT
        go_wp2_with fail
        go_round
        case rel => exact ⟨k + 1, hI, by go_num⟩
        case measure => simp [intOf]; omega
    · have hkn : k = s.pool.length := by omega
      have hv : wT t s = wN (s.pool.length : Int) ⟨s.pool ++ [t], s.out⟩ := by
        unfold wT wN
        rw [if_neg (by omega), show idx s.pool t = s.pool.length by omega]
      have HV : Hid _ := hv
      have dk : decide ((k : Int) < (s.pool.length : Int)) = false := by simp; omega
      have dk2 : ((k : Int) == (s.pool.length : Int)) = true := by rw [beq_iff_eq]; omega
      have dk3 : decide (k < s.pool.length) = false := by simp; omega
      have HKN : Hid _ := hkn
      have ka := alloc1 w (.cells #[.string t] 9)
      have BBk := blk_on BB ka
      have x1k := blk_cell BBk 0
      simp only [List.getElem?_toArray, List.getElem?_cons_zero, List.getElem?_cons_succ] at x1k
      have own1k := own1.alloc (.cells #[.string t] 9)
      have hnews := news_lit w [.string t] 9
      have hneK := own_ne_blk own1k BBk (by decide)
      have hB3 := Nat.le_trans bel.size ka.size
      clear hv hkn hlk HAT
      go_upto_region 5 with (at_builtin; refine wpList_append_lies _ rfl (.tmp 36) (.tmp 38) 22 rfl (w0.heap.size) 9 iS (.string ⟨#[]⟩) 1 16 Tryz.underlying22 hiS hzS0 hzS1 hzS2 rfl (by decide) _ s.pool.length (strs s.pool) rfl own1k ⟨w.heap.size, 0, none⟩ 1 1 ([.string t]) rfl rfl hnews (oneStr t) (by decide) (by unfold maxLen; omega) (by omega) hB3 _ rfl ?_; intro g' cap' w4 own4 g4 hat hlt; have BB4 := blk_grown BBk g4 hneK; have y := blk_cell BB4 0; have y' := blk_free BB4 0; simp only [List.getElem?_toArray, List.getElem?_cons_zero, List.getElem?_cons_succ] at y)
      obtain ⟨H2, F2⟩ := Rwr.pooled bel lo BB own0 own1 g4 own4
      generalize w4.setCell ⟨B, 0, none⟩ (.slice (some ⟨g', 0, none⟩) (s.pool.length + 1) cap') = w5 at *
      clear y y' BB4 own4 g4 hat hlt ka BBk x1k own1k hnews hneK hB3
      have HC := vnum_any B _ (k : Int) w0 w5 H2 (by unfold Is64; have := HKN.out; omega) hs
      go_wp2_with fail
      refine HC.mono ?_
      rintro e w6 ⟨rfl, H6, F6⟩
      go_wp2_with fail
      go_returns
      refine ⟨rfl, ?_, F2.trans F6⟩
      rw [HV.out, ← HKN.out]
      exact H6
set_option maxHeartbeats 4000000 in
theorem vtexts_any (B : Nat) (L : List ByteArray) (v : Value) (s : WS) (w0 w : World) (H : Rwr w0 w B s) (hv : Sl strE 1 w0 v L) (hfit : Fits (wL wT L s)) :
    Calls Tryz.prog 33 #[.pointer (some ⟨B, 0, none⟩), v] w fun e w' => e = .returned (.tuple #[]) ∧ Rwr w0 w' B (wL wT L s) ∧ Frr w w' := by
  have HT : Hid _ := hv
  obtain ⟨a, cp, rfl, hl, hm, hnil, hx⟩ := hv
  unfold maxLen at hm
  clear hx hnil
  have HFK : Hid (∀ k, Fits (wK wT L s k)) := fits_k wT up_t L s hfit
  have h0 := HFK.out 0
  rw [wK_zero] at h0
  have HC0 := vnum_any B s L.length w0 w H (by unfold Is64; omega) (Fits.down h0 (up_n _)).1
  clear h0
  go_enter Tryz.func33, Tryz.ntmps33
  go_wp2_with fail
  refine HC0.mono ?_
  rintro e w1 ⟨rfl, H1, F1⟩
  clear HC0
  go_wp2_with fail
  go_loopw [4] (fun i wr => ∃ k : Nat, k ≤ L.length ∧ i = .int .i64 k ∧ Rwr w0 wr B (wK wT L s k) ∧ Frr w wr) (fun i _ => L.length - (intOf i).toNat)
  case atStart => exact ⟨0, by omega, rfl, H1, F1⟩
  case round =>
    clear H H1 F1
    obtain ⟨k, hk, rfl, H, hfr⟩ := hrel
    by_cases hlk : k < L.length
    · obtain ⟨aa, cc, ev, _, _, _, hx9⟩ := Sl.later strE_stable HT.out H.bel
      simp only [Value.slice.injEq, true_and] at ev
      obtain ⟨rfl, rfl⟩ := ev
      obtain ⟨b9, off9, rfl, _, hx9⟩ := hx9 (by omega)
      have HK : Hid _ := wK_succ wT L s k hlk
      have hfk := HFK.out (k + 1)
      rw [HK.out] at hfk
      obtain ⟨c0, c1⟩ := hx9 k hlk
      simp only [Nat.mul_one] at c0
      clear hx9
      generalize L[k] = X at *
      generalize wK wT L s k = sk at *
      have HC := vtext_any B sk X w0 wr H (Fits.down hfk (up_t _)).1 (Fits.down hfk (up_t _)).2
      clear hfk H
      go_wp2_with fail
      refine HC.mono ?_
      rintro e w2 ⟨rfl, H2, F2⟩
      have F3 := hfr.trans F2
      go_wp2_with fail
      go_roundw
      case rel => exact ⟨k + 1, by omega, by go_num, by rw [HK.out]; exact H2, F3⟩
      case measure => simp [intOf]; omega
    · have HE : Hid _ := wK_end wT L s k (by omega)
      go_wp2_with fail
      go_returns
      exact ⟨rfl, by rw [← HE.out]; exact H, hfr⟩
end Fil
end Go.Proofs.YtjblmgdjaaeedaaGreat

/- The contract of the document's writer of a method. (Written by tools/gen/genrefbytes.py.) -/
namespace Go.Proofs.YtjblmgdjaaeedaaGreat
namespace Fil
open Num Kind Op4 Cls
open Go.RowKit
set_option linter.unusedVariables false
set_option linter.unusedSimpArgs false
set_option maxRecDepth 100000


set_option maxHeartbeats 16000000 in
theorem vmeth_any (B : Nat) (s : WS) (nm : ByteArray) (ps : List ByteArray) (rt : ByteArray) (st ab : Bool) (lo sk : Int) (cd : List InsL) (mp : List MapL) (tr : List TrapL) (q1 q7 q8 q9 : Option Addr) (d1 d7 d8 d9 : Nat) (w0 w : World) (H : Rwr w0 w B s)
    (hv : MethV w0 (.slice q1 ps.length d1) (.slice q7 cd.length d7) (.slice q8 mp.length d8) (.slice q9 tr.length d9) (⟨nm, ps, rt, st, ab, lo, sk, cd, mp, tr⟩ : MethL)) (hok : okM (⟨nm, ps, rt, st, ab, lo, sk, cd, mp, tr⟩ : MethL)) (hfit : Fits (wM (⟨nm, ps, rt, st, ab, lo, sk, cd, mp, tr⟩ : MethL) s)) :
    Calls Tryz.prog 35 #[.pointer (some ⟨B, 0, none⟩), .agg #[.string nm, .slice q1 ps.length d1, .string rt, .bool st, .bool ab, .int .i64 lo, .int .i64 sk, .slice q7 cd.length d7, .slice q8 mp.length d8, .slice q9 tr.length d9]] w fun e w' => e = .returned (.tuple #[]) ∧ Rwr w0 w' B (wM (⟨nm, ps, rt, st, ab, lo, sk, cd, mp, tr⟩ : MethL) s) ∧ Frr w w' := by
  have ka := alloc1 w (.cells #[.string nm, .slice q1 ps.length d1, .string rt, .bool st, .bool ab, .int .i64 lo, .int .i64 sk, .slice q7 cd.length d7, .slice q8 mp.length d8, .slice q9 tr.length d9] 46)
  have BX0 := blk_new w #[.string nm, .slice q1 ps.length d1, .string rt, .bool st, .bool ab, .int .i64 lo, .int .i64 sk, .slice q7 cd.length d7, .slice q8 mp.length d8, .slice q9 tr.length d9] 46
  have H0 := H.later ka
  have F0 := Frr.below ka
  obtain ⟨k0, k2, k5, k6, k1, k7, k8, k9⟩ := hok
  unfold wM wM1 at hfit ⊢
  dsimp only at *
  have hcd : cd.length ≤ 1000 := k7.1
  have hmp : mp.length ≤ 1000 := k8.1
  have htr : tr.length ≤ 1000 := k9.1
  have t10 := hfit
  have t9 := Fits.down t10 (up_l wR up_r _)
  have t8 := Fits.down t9 (up_l wX up_x _)
  have t7 := Fits.down t8 (up_l wI up_i _)
  have t6 := Fits.down t7 (up_n _)
  have t5 := Fits.down t6 (up_n _)
  have t4 := Fits.down t5 (up_b _)
  have t3 := Fits.down t4 (up_b _)
  have t2 := Fits.down t3 (up_t _)
  have t1 := Fits.down t2 (up_l wT up_t _)
  have t0 := Fits.down t1 (up_t _)
  have T8 : Hid _ := t8
  have T9 : Hid _ := t9
  have T10 : Hid _ := t10
  have HK7 : Hid _ := k7.2
  have HK8 : Hid _ := k8.2
  have HK9 : Hid _ := k9.2
  have HV : Hid _ := hv
  clear t8 t9 t10 hfit ka H k7 k8 k9
  have HC0 := vtext_any B s nm w0 _ H0 t0.1 t0.2
  go_enter Tryz.func35, Tryz.ntmps35
  go_wp2_with fail
  refine HC0.mono ?_
  rintro e w1 ⟨rfl, H1, F1⟩
  have BX1 := blk_frr BX0 F1
  have F1 := F0.trans F1
  clear HC0 BX0 F0 H0 t0
  have x1 := blk_cell BX1 1
  simp only [List.getElem?_toArray, List.getElem?_cons_zero, List.getElem?_cons_succ] at x1
  have HC1 := vtexts_any B ps _ _ w0 w1 H1 hv.params t2
  go_wp2_with fail
  refine HC1.mono ?_
  rintro e w2 ⟨rfl, H2, F2⟩
  have BX2 := blk_frr BX1 F2
  have F2 := F1.trans F2
  clear HC1 BX1 F1 x1 H1
  have x2 := blk_cell BX2 2
  simp only [List.getElem?_toArray, List.getElem?_cons_zero, List.getElem?_cons_succ] at x2
  have HC2 := vtext_any B _ rt w0 w2 H2 t2.1 t2.2
  go_wp2_with fail
  refine HC2.mono ?_
  rintro e w3 ⟨rfl, H3, F3⟩
  have BX3 := blk_frr BX2 F3
  have F3 := F2.trans F3
  clear HC2 BX2 F2 x2 H2
  have x3 := blk_cell BX3 3
  simp only [List.getElem?_toArray, List.getElem?_cons_zero, List.getElem?_cons_succ] at x3
  have HC3 := vtruth_any B _ st w0 w3 H3 t3.1
  go_wp2_with fail
  refine HC3.mono ?_
  rintro e w4 ⟨rfl, H4, F4⟩
  have BX4 := blk_frr BX3 F4
  have F4 := F3.trans F4
  clear HC3 BX3 F3 x3 H3
  have x4 := blk_cell BX4 4
  simp only [List.getElem?_toArray, List.getElem?_cons_zero, List.getElem?_cons_succ] at x4
  have HC4 := vtruth_any B _ ab w0 w4 H4 t4.1
  go_wp2_with fail
  refine HC4.mono ?_
  rintro e w5 ⟨rfl, H5, F5⟩
  have BX5 := blk_frr BX4 F5
  have F5 := F4.trans F5
  clear HC4 BX4 F4 x4 H4
  have x5 := blk_cell BX5 5
  simp only [List.getElem?_toArray, List.getElem?_cons_zero, List.getElem?_cons_succ] at x5
  have HC5 := vnum_any B _ lo w0 w5 H5 k5 t5.1
  go_wp2_with fail
  refine HC5.mono ?_
  rintro e w6 ⟨rfl, H6, F6⟩
  have BX6 := blk_frr BX5 F6
  have F6 := F5.trans F6
  clear HC5 BX5 F5 x5 H5
  have x6 := blk_cell BX6 6
  simp only [List.getElem?_toArray, List.getElem?_cons_zero, List.getElem?_cons_succ] at x6
  have HC6 := vnum_any B _ sk w0 w6 H6 k6 t6.1
  go_wp2_with fail
  refine HC6.mono ?_
  rintro e w7 ⟨rfl, H7, F7⟩
  have BX7 := blk_frr BX6 F7
  have F7 := F6.trans F7
  clear HC6 BX6 F6 x6 H6
  obtain ⟨ws, hws⟩ : ∃ x, x = w7 := ⟨_, rfl⟩
  subst hws
  have Hs := H7
  have BXs := BX7
  have Fs := F7
  clear H7 BX7 F7
  have xx := blk_cell BXs 7
  simp only [List.getElem?_toArray, List.getElem?_cons_zero, List.getElem?_cons_succ] at xx
  generalize hss : (wN sk (wN lo (wB ab (wB st (wT rt (wL wT ps (wT nm s))))))) = ss1 at Hs
  have HSS1 : Hid _ := hss
  clear hss
  have HFK : Hid (∀ k, Fits (wK wI cd ss1 k)) := fits_k wI up_i cd ss1 (by have := T8.out; rw [HSS1.out] at this; exact this)
  have h0 := HFK.out 0
  rw [wK_zero] at h0
  have HCn := vnum_any B ss1 cd.length w0 ws Hs (by unfold Is64; omega) (Fits.down h0 (up_n _)).1
  clear h0
  go_wp2_with fail
  skip
  refine HCn.mono ?_
  rintro e wn ⟨rfl, Hn, Fn⟩
  have BXn := blk_frr BXs Fn
  have Fn := Fs.trans Fn
  clear HCn BXs Fs xx Hs
  go_wp2_with fail
  go_loopw [4] (fun i wr' => ∃ k : Nat, k ≤ cd.length ∧ i = .int .i64 k ∧ Rwr w0 wr' B (wK wI cd ss1 k) ∧ wr'.heap[w.heap.size]? = some (.cells #[.string nm, .slice q1 ps.length d1, .string rt, .bool st, .bool ab, .int .i64 lo, .int .i64 sk, .slice q7 cd.length d7, .slice q8 mp.length d8, .slice q9 tr.length d9] 46 (0, 0)) ∧ Frr w wr') (fun i _ => cd.length - (intOf i).toNat)
  case atStart => exact ⟨0, by omega, rfl, Hn, BXn, Fn⟩
  case round =>
    clear Hn BXn Fn
    obtain ⟨k, hk, rfl, He0, BXe0, Fe0⟩ := hrel
    by_cases hlk : k < cd.length
    · obtain ⟨aa, cc, ev, _, _, _, hx9⟩ := HV.out.code
      simp only [Value.slice.injEq, true_and] at ev
      obtain ⟨rfl, rfl⟩ := ev
      obtain ⟨b9, off9, rfl, _, hx9⟩ := hx9 (by simp only; omega)
      have HKx : Hid _ := wK_succ wI cd ss1 k hlk
      have hfk := HFK.out (k + 1)
      rw [HKx.out] at hfk
      have hkx := HK7.out _ (List.getElem_mem hlk)
      have hcell := hx9 k hlk
      clear hx9
      simp only at hcell hkx hfk
      generalize cd[k] = X at *
      obtain ⟨o, a, c, m⟩ := X
      obtain ⟨⟨c0, c1, c2, c3⟩, _, _⟩ := hcell
      obtain ⟨kx0, kx1, _, _⟩ := hkx
      simp only at c0 c1 c2 c3 kx0 kx1
      generalize wK wI cd ss1 k = s0 at *
      unfold wI at hfk
      dsimp only at hfk
      have f4 := hfk
      have f3 := Fits.down f4 (up_t _)
      have f2 := Fits.down f3 (up_t _)
      have f1 := Fits.down f2 (up_n _)
      have f0 := Fits.down f1 (up_n _)
      clear hfk
      have z0 := cellOn c0 He0.bel
      have y0 := blk_cell BXe0 7
      simp only [List.getElem?_toArray, List.getElem?_cons_zero, List.getElem?_cons_succ] at y0
      have HD0 := vnum_any B s0 o w0 wr He0 kx0 f0.1
      go_wp2_with fail
      refine HD0.mono ?_
      rintro e we1 ⟨rfl, He1, Fe1⟩
      have BXe1 := blk_frr BXe0 Fe1
      have Fe1 := Fe0.trans Fe1
      clear HD0 BXe0 z0 y0 Fe0 He0
      have z1 := cellOn c1 He1.bel
      have y1 := blk_cell BXe1 7
      simp only [List.getElem?_toArray, List.getElem?_cons_zero, List.getElem?_cons_succ] at y1
      have HD1 := vnum_any B _ a w0 we1 He1 kx1 f1.1
      go_wp2_with fail
      refine HD1.mono ?_
      rintro e we2 ⟨rfl, He2, Fe2⟩
      have BXe2 := blk_frr BXe1 Fe2
      have Fe2 := Fe1.trans Fe2
      clear HD1 BXe1 z1 y1 Fe1 He1
      have z2 := cellOn c2 He2.bel
      have y2 := blk_cell BXe2 7
      simp only [List.getElem?_toArray, List.getElem?_cons_zero, List.getElem?_cons_succ] at y2
      have HD2 := vtext_any B _ c w0 we2 He2 f2.1 f2.2
      go_wp2_with fail
      refine HD2.mono ?_
      rintro e we3 ⟨rfl, He3, Fe3⟩
      have BXe3 := blk_frr BXe2 Fe3
      have Fe3 := Fe2.trans Fe3
      clear HD2 BXe2 z2 y2 Fe2 He2
      have z3 := cellOn c3 He3.bel
      have y3 := blk_cell BXe3 7
      simp only [List.getElem?_toArray, List.getElem?_cons_zero, List.getElem?_cons_succ] at y3
      have HD3 := vtext_any B _ m w0 we3 He3 f3.1 f3.2
      go_wp2_with fail
      refine HD3.mono ?_
      rintro e we4 ⟨rfl, He4, Fe4⟩
      have BXe4 := blk_frr BXe3 Fe4
      have Fe4 := Fe3.trans Fe4
      clear HD3 BXe3 z3 y3 Fe3 He3
      go_wp2_with fail
      go_roundw
      case rel => exact ⟨k + 1, by omega, by go_num, by rw [HKx.out]; exact He4, BXe4, Fe4⟩
      case measure => simp [intOf]; omega
    have HEe := wK_end wI cd ss1 k (by omega)
    rw [HEe] at He0
    have hsz := He0.bel
    obtain ⟨ws, hws⟩ : ∃ x, x = wr := ⟨_, rfl⟩
    subst hws
    have xe := blk_cell BXe0 7
    simp only [List.getElem?_toArray, List.getElem?_cons_zero, List.getElem?_cons_succ] at xe
    clear HEe HFK hk

    have Hs := He0
    have BXs := BXe0
    have Fs := Fe0
    clear He0 BXe0 Fe0 hsz
    have xx := blk_cell BXs 8
    simp only [List.getElem?_toArray, List.getElem?_cons_zero, List.getElem?_cons_succ] at xx
    generalize hss : (wL wI cd ss1) = ss2 at Hs
    have HSS2 : Hid _ := hss
    clear hss
    have HFK : Hid (∀ k, Fits (wK wX mp ss2 k)) := fits_k wX up_x mp ss2 (by have := T9.out; rw [HSS1.out] at this; rw [HSS2.out] at this; exact this)
    have h0 := HFK.out 0
    rw [wK_zero] at h0
    have HCn := vnum_any B ss2 mp.length w0 ws Hs (by unfold Is64; omega) (Fits.down h0 (up_n _)).1
    clear h0
    go_wp2_with fail
    clear hlk xe
    refine HCn.mono ?_
    rintro e wn ⟨rfl, Hn, Fn⟩
    have BXn := blk_frr BXs Fn
    have Fn := Fs.trans Fn
    clear HCn BXs Fs xx Hs
    go_wp2_with fail
    go_loopw [5] (fun i wr' => ∃ k : Nat, k ≤ mp.length ∧ i = .int .i64 k ∧ Rwr w0 wr' B (wK wX mp ss2 k) ∧ wr'.heap[w.heap.size]? = some (.cells #[.string nm, .slice q1 ps.length d1, .string rt, .bool st, .bool ab, .int .i64 lo, .int .i64 sk, .slice q7 cd.length d7, .slice q8 mp.length d8, .slice q9 tr.length d9] 46 (0, 0)) ∧ Frr w wr') (fun i _ => mp.length - (intOf i).toNat)
    case atStart => exact ⟨0, by omega, rfl, Hn, BXn, Fn⟩
    case round =>
      clear Hn BXn Fn
      obtain ⟨k, hk, rfl, He0, BXe0, Fe0⟩ := hrel
      by_cases hlk : k < mp.length
      · obtain ⟨aa, cc, ev, _, _, _, hx9⟩ := HV.out.maps
        simp only [Value.slice.injEq, true_and] at ev
        obtain ⟨rfl, rfl⟩ := ev
        obtain ⟨b9, off9, rfl, _, hx9⟩ := hx9 (by simp only; omega)
        have HKx : Hid _ := wK_succ wX mp ss2 k hlk
        have hfk := HFK.out (k + 1)
        rw [HKx.out] at hfk
        have hkx := HK8.out _ (List.getElem_mem hlk)
        have hcell := hx9 k hlk
        clear hx9
        simp only at hcell hkx hfk
        generalize mp[k] = X at *
        obtain ⟨at9, los, sts⟩ := X
        obtain ⟨vL, vS, c0, c1, c2, sL, sS⟩ := hcell
        obtain ⟨kx0, _⟩ := hkx
        simp only at c0 c1 c2 kx0 sL sS
        obtain ⟨qL, dL, eL, _⟩ := id sL
        obtain ⟨qS, dS, eS, _⟩ := id sS
        subst eL eS
        generalize wK wX mp ss2 k = s0 at *
        unfold wX at hfk
        dsimp only at hfk
        have f3 := hfk
        have f2 := Fits.down f3 (up_l wT up_t _)
        have f1 := Fits.down f2 (up_l wT up_t _)
        have f0 := Fits.down f1 (up_n _)
        clear hfk
        have z0 := cellOn c0 He0.bel
        have y0 := blk_cell BXe0 8
        simp only [List.getElem?_toArray, List.getElem?_cons_zero, List.getElem?_cons_succ] at y0
        have HD0 := vnum_any B s0 at9 w0 wr He0 kx0 f0.1
        go_wp2_with fail
        refine HD0.mono ?_
        rintro e we1 ⟨rfl, He1, Fe1⟩
        have BXe1 := blk_frr BXe0 Fe1
        have Fe1 := Fe0.trans Fe1
        clear HD0 BXe0 z0 y0 Fe0 He0
        have z1 := cellOn c1 He1.bel
        have y1 := blk_cell BXe1 8
        simp only [List.getElem?_toArray, List.getElem?_cons_zero, List.getElem?_cons_succ] at y1
        have HD1 := vtexts_any B los _ _ w0 we1 He1 sL f2
        go_wp2_with fail
        refine HD1.mono ?_
        rintro e we2 ⟨rfl, He2, Fe2⟩
        have BXe2 := blk_frr BXe1 Fe2
        have Fe2 := Fe1.trans Fe2
        clear HD1 BXe1 z1 y1 Fe1 He1
        have z2 := cellOn c2 He2.bel
        have y2 := blk_cell BXe2 8
        simp only [List.getElem?_toArray, List.getElem?_cons_zero, List.getElem?_cons_succ] at y2
        have HD2 := vtexts_any B sts _ _ w0 we2 He2 sS f3
        go_wp2_with fail
        refine HD2.mono ?_
        rintro e we3 ⟨rfl, He3, Fe3⟩
        have BXe3 := blk_frr BXe2 Fe3
        have Fe3 := Fe2.trans Fe3
        clear HD2 BXe2 z2 y2 Fe2 He2
        go_wp2_with fail
        go_roundw
        case rel => exact ⟨k + 1, by omega, by go_num, by rw [HKx.out]; exact He3, BXe3, Fe3⟩
        case measure => simp [intOf]; omega
      have HEe := wK_end wX mp ss2 k (by omega)
      rw [HEe] at He0
      have hsz := He0.bel
      obtain ⟨ws, hws⟩ : ∃ x, x = wr := ⟨_, rfl⟩
      subst hws
      have xe := blk_cell BXe0 8
      simp only [List.getElem?_toArray, List.getElem?_cons_zero, List.getElem?_cons_succ] at xe
      clear HEe HFK hk

      have Hs := He0
      have BXs := BXe0
      have Fs := Fe0
      clear He0 BXe0 Fe0 hsz
      have xx := blk_cell BXs 9
      simp only [List.getElem?_toArray, List.getElem?_cons_zero, List.getElem?_cons_succ] at xx
      generalize hss : (wL wX mp ss2) = ss3 at Hs
      have HSS3 : Hid _ := hss
      clear hss
      have HFK : Hid (∀ k, Fits (wK wR tr ss3 k)) := fits_k wR up_r tr ss3 (by have := T10.out; rw [HSS1.out] at this; rw [HSS2.out] at this; rw [HSS3.out] at this; exact this)
      have h0 := HFK.out 0
      rw [wK_zero] at h0
      have HCn := vnum_any B ss3 tr.length w0 ws Hs (by unfold Is64; omega) (Fits.down h0 (up_n _)).1
      clear h0
      go_wp2_with fail
      clear hlk xe
      refine HCn.mono ?_
      rintro e wn ⟨rfl, Hn, Fn⟩
      have BXn := blk_frr BXs Fn
      have Fn := Fs.trans Fn
      clear HCn BXs Fs xx Hs
      go_wp2_with fail
      go_loopw [6] (fun i wr' => ∃ k : Nat, k ≤ tr.length ∧ i = .int .i64 k ∧ Rwr w0 wr' B (wK wR tr ss3 k) ∧ wr'.heap[w.heap.size]? = some (.cells #[.string nm, .slice q1 ps.length d1, .string rt, .bool st, .bool ab, .int .i64 lo, .int .i64 sk, .slice q7 cd.length d7, .slice q8 mp.length d8, .slice q9 tr.length d9] 46 (0, 0)) ∧ Frr w wr') (fun i _ => tr.length - (intOf i).toNat)
      case atStart => exact ⟨0, by omega, rfl, Hn, BXn, Fn⟩
      case round =>
        clear Hn BXn Fn
        obtain ⟨k, hk, rfl, He0, BXe0, Fe0⟩ := hrel
        by_cases hlk : k < tr.length
        · obtain ⟨aa, cc, ev, _, _, _, hx9⟩ := HV.out.traps
          simp only [Value.slice.injEq, true_and] at ev
          obtain ⟨rfl, rfl⟩ := ev
          obtain ⟨b9, off9, rfl, _, hx9⟩ := hx9 (by simp only; omega)
          have HKx : Hid _ := wK_succ wR tr ss3 k hlk
          have hfk := HFK.out (k + 1)
          rw [HKx.out] at hfk
          have hkx := HK9.out _ (List.getElem_mem hlk)
          have hcell := hx9 k hlk
          clear hx9
          simp only at hcell hkx hfk
          generalize tr[k] = X at *
          obtain ⟨fr, to, at9, c⟩ := X
          obtain ⟨c0, c1, c2, c3, _⟩ := hcell
          obtain ⟨kx0, kx1, kx2, _⟩ := hkx
          simp only at c0 c1 c2 c3 kx0 kx1 kx2
          generalize wK wR tr ss3 k = s0 at *
          unfold wR at hfk
          dsimp only at hfk
          have f4 := hfk
          have f3 := Fits.down f4 (up_t _)
          have f2 := Fits.down f3 (up_n _)
          have f1 := Fits.down f2 (up_n _)
          have f0 := Fits.down f1 (up_n _)
          clear hfk
          have z0 := cellOn c0 He0.bel
          have z1 := cellOn c1 He0.bel
          have z2 := cellOn c2 He0.bel
          have z3 := cellOn c3 He0.bel
          have y0 := blk_cell BXe0 9
          simp only [List.getElem?_toArray, List.getElem?_cons_zero, List.getElem?_cons_succ] at y0
          have kt := alloc1 wr (.cells #[.int .i64 fr, .int .i64 to, .int .i64 at9, .string c] 80)
          have BT0 := blk_new wr #[.int .i64 fr, .int .i64 to, .int .i64 at9, .string c] 80
          have He0 := He0.later kt
          have BXe0 := blk_on BXe0 kt
          have Fe0 := Fe0.trans (Frr.below kt)
          clear kt
          have HD0 := vnum_any B s0 fr w0 _ He0 kx0 f0.1
          go_wp2_with fail
          clear z0 z1 z2 z3 y0
          refine HD0.mono ?_
          rintro e we1 ⟨rfl, He1, Fe1⟩
          have BXe1 := blk_frr BXe0 Fe1
          have BT1 := blk_frr BT0 Fe1
          have Fe1 := Fe0.trans Fe1
          clear HD0 BXe0 BT0 Fe0 He0
          have z1 := blk_cell BT1 1
          simp only [List.getElem?_toArray, List.getElem?_cons_zero, List.getElem?_cons_succ] at z1
          have HD1 := vnum_any B _ to w0 we1 He1 kx1 f1.1
          go_wp2_with fail
          clear z1
          refine HD1.mono ?_
          rintro e we2 ⟨rfl, He2, Fe2⟩
          have BXe2 := blk_frr BXe1 Fe2
          have BT2 := blk_frr BT1 Fe2
          have Fe2 := Fe1.trans Fe2
          clear HD1 BXe1 BT1 Fe1 He1
          have z2 := blk_cell BT2 2
          simp only [List.getElem?_toArray, List.getElem?_cons_zero, List.getElem?_cons_succ] at z2
          have HD2 := vnum_any B _ at9 w0 we2 He2 kx2 f2.1
          go_wp2_with fail
          clear z2
          refine HD2.mono ?_
          rintro e we3 ⟨rfl, He3, Fe3⟩
          have BXe3 := blk_frr BXe2 Fe3
          have BT3 := blk_frr BT2 Fe3
          have Fe3 := Fe2.trans Fe3
          clear HD2 BXe2 BT2 Fe2 He2
          have z3 := blk_cell BT3 3
          simp only [List.getElem?_toArray, List.getElem?_cons_zero, List.getElem?_cons_succ] at z3
          have HD3 := vtext_any B _ c w0 we3 He3 f3.1 f3.2
          go_wp2_with fail
          clear z3
          refine HD3.mono ?_
          rintro e we4 ⟨rfl, He4, Fe4⟩
          have BXe4 := blk_frr BXe3 Fe4
          have BT4 := blk_frr BT3 Fe4
          have Fe4 := Fe3.trans Fe4
          clear HD3 BXe3 BT3 Fe3 He3
          go_wp2_with fail
          go_roundw
          case rel => exact ⟨k + 1, by omega, by go_num, by rw [HKx.out]; exact He4, BXe4, Fe4⟩
          case measure => simp [intOf]; omega
        have HEe := wK_end wR tr ss3 k (by omega)
        rw [HEe] at He0
        have hsz := He0.bel
        obtain ⟨ws, hws⟩ : ∃ x, x = wr := ⟨_, rfl⟩
        subst hws
        have xe := blk_cell BXe0 9
        simp only [List.getElem?_toArray, List.getElem?_cons_zero, List.getElem?_cons_succ] at xe
        clear HEe HFK hk

        go_wp2_with fail
        go_returns
        refine ⟨rfl, ?_, Fe0⟩
        rw [HSS1.out, HSS2.out, HSS3.out]
        exact He0
end Fil
end Go.Proofs.YtjblmgdjaaeedaaGreat

/- The contract of the document's Bytes. (Written by tools/gen/genrefbytes.py.) -/
namespace Go.Proofs.YtjblmgdjaaeedaaGreat
namespace Fil
open Num Kind Op4 Cls
open Go.RowKit
set_option linter.unusedVariables false
set_option linter.unusedSimpArgs false
set_option maxRecDepth 100000


set_option maxHeartbeats 16000000 in
theorem bytes_any (nm sp : ByteArray) (ifc : Bool) (im : List ByteArray) (fd : List FieldL) (mt : List MethL) (q3 q4 q5 : Option Addr) (d3 d4 d5 : Nat) (w : World)
    (hv : ClsV w (.slice q3 im.length d3) (.slice q4 fd.length d4) (.slice q5 mt.length d5) (⟨nm, sp, ifc, im, fd, mt⟩ : ClsL)) (hok : okC (⟨nm, sp, ifc, im, fd, mt⟩ : ClsL)) (hfit : Fits (wC (⟨nm, sp, ifc, im, fd, mt⟩ : ClsL) ⟨[], []⟩)) :
    Calls Tryz.prog 12 #[.agg #[.string nm, .string sp, .bool ifc, .slice q3 im.length d3, .slice q4 fd.length d4, .slice q5 mt.length d5]] w fun e w' => ∃ g cap, e = .returned (.slice (some ⟨g, 0, none⟩) (bytesL (⟨nm, sp, ifc, im, fd, mt⟩ : ClsL)).length cap) ∧
      w'.ownsRow w.heap.size 5 1 (.slice (some ⟨g, 0, none⟩) (bytesL (⟨nm, sp, ifc, im, fd, mt⟩ : ClsL)).length cap) (bytesL (⟨nm, sp, ifc, im, fd, mt⟩ : ClsL)).length (cellsOf (bytesL (⟨nm, sp, ifc, im, fd, mt⟩ : ClsL))) ∧ Below w.heap.size w w' := by
  have ka := alloc1 w (.cells #[.string nm, .string sp, .bool ifc, .slice q3 im.length d3, .slice q4 fd.length d4, .slice q5 mt.length d5] 26)
  have kb := alloc1 (w.alloc (.cells #[.string nm, .string sp, .bool ifc, .slice q3 im.length d3, .slice q4 fd.length d4, .slice q5 mt.length d5] 26)) (.cells #[.slice none 0 0, .slice none 0 0] 66)
  have BX0 := blk_on (blk_new w #[.string nm, .string sp, .bool ifc, .slice q3 im.length d3, .slice q4 fd.length d4, .slice q5 mt.length d5] 26) kb
  have BW0 := blk_new (w.alloc (.cells #[.string nm, .string sp, .bool ifc, .slice q3 im.length d3, .slice q4 fd.length d4, .slice q5 mt.length d5] 26)) #[.slice none 0 0, .slice none 0 0] 66
  rw [alloc_size] at BW0
  have kab := ka.trans (kb.mono ka.size)
  have H0 : Rwr w ((w.alloc (.cells #[.string nm, .string sp, .bool ifc, .slice q3 im.length d3, .slice q4 fd.length d4, .slice q5 mt.length d5] 26)).alloc (.cells #[.slice none 0 0, .slice none 0 0] 66)) (w.heap.size + 1) ⟨[], []⟩ := ⟨kab, Nat.le_succ _, ⟨_, _, BW0, World.ownsRow_nil _ _ _ _, World.ownsRow_nil _ _ _ _⟩⟩
  have x0 := blk_cell BX0 0
  simp only [List.getElem?_toArray, List.getElem?_cons_zero, List.getElem?_cons_succ] at x0
  have hwhole := whole_ok _ hok
  have HWH : Hid _ := hwhole.1
  have hfin : bytesL (⟨nm, sp, ifc, im, fd, mt⟩ : ClsL) = whole (wC (⟨nm, sp, ifc, im, fd, mt⟩ : ClsL) ⟨[], []⟩) := rfl
  rw [hfin]
  clear hwhole hfin
  obtain ⟨k0, k1, k3, k4, k5⟩ := hok
  generalize hs0 : (⟨[], []⟩ : WS) = sz at *
  clear hs0
  unfold wC at hfit HWH ⊢
  dsimp only at *
  have him : im.length ≤ 1000 := k3.1
  have hfd : fd.length ≤ 1000 := k4.1
  have hmt : mt.length ≤ 1000 := k5.1
  have t6 := hfit
  have t5 := Fits.down t6 (up_l wM up_m _)
  have t4 := Fits.down t5 (up_l wF up_f _)
  have t3 := Fits.down t4 (up_l wT up_t _)
  have t2 := Fits.down t3 (up_b _)
  have t1 := Fits.down t2 (up_t _)
  have t0 := Fits.down t1 (up_t _)
  have T5 : Hid _ := t5
  have T6 : Hid _ := t6
  have HK4 : Hid _ := k4.2
  have HK5 : Hid _ := k5.2
  have HV : Hid _ := hv
  clear t5 t6 hfit kab ka kb k4 k5 BW0
  have HC0 := vtext_any (w.heap.size + 1) sz nm w _ H0 t0.1 t0.2
  go_enter Tryz.func12, Tryz.ntmps12
  go_wp2_with fail
  refine HC0.mono ?_
  rintro e w1 ⟨rfl, H1, F1⟩
  have BX1 := blk_frr BX0 F1
  clear HC0 BX0 H0 t0 F1 x0
  have x1 := blk_cell BX1 1
  simp only [List.getElem?_toArray, List.getElem?_cons_zero, List.getElem?_cons_succ] at x1
  have HC1 := vtext_any (w.heap.size + 1) _ sp w w1 H1 t1.1 t1.2
  go_wp2_with fail
  refine HC1.mono ?_
  rintro e w2 ⟨rfl, H2, F2⟩
  have BX2 := blk_frr BX1 F2
  clear HC1 BX1 F2 x1 H1
  have x2 := blk_cell BX2 2
  simp only [List.getElem?_toArray, List.getElem?_cons_zero, List.getElem?_cons_succ] at x2
  have HC2 := vtruth_any (w.heap.size + 1) _ ifc w w2 H2 t2.1
  go_wp2_with fail
  refine HC2.mono ?_
  rintro e w3 ⟨rfl, H3, F3⟩
  have BX3 := blk_frr BX2 F3
  clear HC2 BX2 F3 x2 H2
  have x3 := blk_cell BX3 3
  simp only [List.getElem?_toArray, List.getElem?_cons_zero, List.getElem?_cons_succ] at x3
  have HC3 := vtexts_any (w.heap.size + 1) im _ _ w w3 H3 hv.impl t4
  go_wp2_with fail
  refine HC3.mono ?_
  rintro e w4 ⟨rfl, H4, F4⟩
  have BX4 := blk_frr BX3 F4
  clear HC3 BX3 F4 x3 H3
  obtain ⟨ws, hws⟩ : ∃ x, x = w4 := ⟨_, rfl⟩
  subst hws
  have Hs := H4
  have BXs := BX4
  clear H4 BX4
  have Fs := Frr.refl ws
  obtain ⟨wq, hwq⟩ : ∃ x, x = ws := ⟨_, rfl⟩
  have xx := blk_cell BXs 4
  simp only [List.getElem?_toArray, List.getElem?_cons_zero, List.getElem?_cons_succ] at xx
  generalize hss : (wL wT im (wB ifc (wT sp (wT nm sz)))) = ss1 at Hs
  have HSS1 : Hid _ := hss
  clear hss
  have HFK : Hid (∀ k, Fits (wK wF fd ss1 k)) := fits_k wF up_f fd ss1 (by have := T5.out; rw [HSS1.out] at this; exact this)
  have h0 := HFK.out 0
  rw [wK_zero] at h0
  have HCn := vnum_any (w.heap.size + 1) ss1 fd.length w ws Hs (by unfold Is64; omega) (Fits.down h0 (up_n _)).1
  clear h0
  go_wp2_with fail
  skip
  refine HCn.mono ?_
  rintro e wn ⟨rfl, Hn, Fn⟩
  have BXn := blk_frr BXs Fn
  have Fn := trivial
  clear HCn BXs Fs xx Hs
  go_wp2_with fail
  go_loopw [4] (fun i wr' => ∃ k : Nat, k ≤ fd.length ∧ i = .int .i64 k ∧ Rwr w wr' (w.heap.size + 1) (wK wF fd ss1 k) ∧ wr'.heap[w.heap.size]? = some (.cells #[.string nm, .string sp, .bool ifc, .slice q3 im.length d3, .slice q4 fd.length d4, .slice q5 mt.length d5] 26 (0, 0)) ∧ True) (fun i _ => fd.length - (intOf i).toNat)
  case atStart => exact ⟨0, by omega, rfl, Hn, BXn, Fn⟩
  case round =>
    clear Hn BXn Fn
    obtain ⟨k, hk, rfl, He0, BXe0, Fe0⟩ := hrel
    by_cases hlk : k < fd.length
    · obtain ⟨aa, cc, ev, _, _, _, hx9⟩ := HV.out.fields
      simp only [Value.slice.injEq, true_and] at ev
      obtain ⟨rfl, rfl⟩ := ev
      obtain ⟨b9, off9, rfl, _, hx9⟩ := hx9 (by simp only; omega)
      have HKx : Hid _ := wK_succ wF fd ss1 k hlk
      have hfk := HFK.out (k + 1)
      rw [HKx.out] at hfk
      have hkx := HK4.out _ (List.getElem_mem hlk)
      have hcell := hx9 k hlk
      clear hx9
      simp only at hcell hkx hfk
      generalize fd[k] = X at *
      obtain ⟨fn, ft, fs⟩ := X
      obtain ⟨c0, c1, c2, _, _⟩ := hcell
      simp only at c0 c1 c2
      generalize wK wF fd ss1 k = s0 at *
      unfold wF at hfk
      dsimp only at hfk
      have f3 := hfk
      have f2 := Fits.down f3 (up_b _)
      have f1 := Fits.down f2 (up_t _)
      have f0 := Fits.down f1 (up_t _)
      clear hfk
      have z0 := cellOn c0 He0.bel
      have y0 := blk_cell BXe0 4
      simp only [List.getElem?_toArray, List.getElem?_cons_zero, List.getElem?_cons_succ] at y0
      have HD0 := vtext_any (w.heap.size + 1) s0 fn w wr He0 f0.1 f0.2
      go_wp2_with fail
      refine HD0.mono ?_
      rintro e we1 ⟨rfl, He1, Fe1⟩
      have BXe1 := blk_frr BXe0 Fe1
      have Fe1 := trivial
      clear HD0 BXe0 z0 y0 Fe0 He0
      have z1 := cellOn c1 He1.bel
      have y1 := blk_cell BXe1 4
      simp only [List.getElem?_toArray, List.getElem?_cons_zero, List.getElem?_cons_succ] at y1
      have HD1 := vtext_any (w.heap.size + 1) _ ft w we1 He1 f1.1 f1.2
      go_wp2_with fail
      refine HD1.mono ?_
      rintro e we2 ⟨rfl, He2, Fe2⟩
      have BXe2 := blk_frr BXe1 Fe2
      have Fe2 := trivial
      clear HD1 BXe1 z1 y1 Fe1 He1
      have z2 := cellOn c2 He2.bel
      have y2 := blk_cell BXe2 4
      simp only [List.getElem?_toArray, List.getElem?_cons_zero, List.getElem?_cons_succ] at y2
      have HD2 := vtruth_any (w.heap.size + 1) _ fs w we2 He2 f2.1
      go_wp2_with fail
      refine HD2.mono ?_
      rintro e we3 ⟨rfl, He3, Fe3⟩
      have BXe3 := blk_frr BXe2 Fe3
      have Fe3 := trivial
      clear HD2 BXe2 z2 y2 Fe2 He2
      go_wp2_with fail
      go_roundw
      case rel => exact ⟨k + 1, by omega, by go_num, by rw [HKx.out]; exact He3, BXe3, Fe3⟩
      case measure => simp [intOf]; omega
    have HEe := wK_end wF fd ss1 k (by omega)
    rw [HEe] at He0
    have hsz := He0.bel
    obtain ⟨ws, hws⟩ : ∃ x, x = wr := ⟨_, rfl⟩
    subst hws
    have xe := blk_cell BXe0 4
    simp only [List.getElem?_toArray, List.getElem?_cons_zero, List.getElem?_cons_succ] at xe
    clear HEe HFK hk

    have Hs := He0
    have BXs := BXe0
    have Fs := Fe0
    clear He0 BXe0 Fe0 hsz
    have xx := blk_cell BXs 5
    simp only [List.getElem?_toArray, List.getElem?_cons_zero, List.getElem?_cons_succ] at xx
    generalize hss : (wL wF fd ss1) = ss2 at Hs
    have HSS2 : Hid _ := hss
    clear hss
    have HFK : Hid (∀ k, Fits (wK wM mt ss2 k)) := fits_k wM up_m mt ss2 (by have := T6.out; rw [HSS1.out] at this; rw [HSS2.out] at this; exact this)
    have h0 := HFK.out 0
    rw [wK_zero] at h0
    have HCn := vnum_any (w.heap.size + 1) ss2 mt.length w ws Hs (by unfold Is64; omega) (Fits.down h0 (up_n _)).1
    clear h0
    go_wp2_with fail
    clear hlk xe
    refine HCn.mono ?_
    rintro e wn ⟨rfl, Hn, Fn⟩
    have BXn := blk_frr BXs Fn
    have Fn := trivial
    clear HCn BXs Fs xx Hs
    go_wp2_with fail
    go_loopw [5] (fun i wr' => ∃ k : Nat, k ≤ mt.length ∧ i = .int .i64 k ∧ Rwr w wr' (w.heap.size + 1) (wK wM mt ss2 k) ∧ wr'.heap[w.heap.size]? = some (.cells #[.string nm, .string sp, .bool ifc, .slice q3 im.length d3, .slice q4 fd.length d4, .slice q5 mt.length d5] 26 (0, 0)) ∧ True) (fun i _ => mt.length - (intOf i).toNat)
    case atStart => exact ⟨0, by omega, rfl, Hn, BXn, Fn⟩
    case round =>
      clear Hn BXn Fn
      obtain ⟨k, hk, rfl, He0, BXe0, Fe0⟩ := hrel
      by_cases hlk : k < mt.length
      · obtain ⟨aa, cc, ev, _, _, _, hx9⟩ := HV.out.methods
        simp only [Value.slice.injEq, true_and] at ev
        obtain ⟨rfl, rfl⟩ := ev
        obtain ⟨b9, off9, rfl, _, hx9⟩ := hx9 (by simp only; omega)
        have HKx : Hid _ := wK_succ wM mt ss2 k hlk
        have hfk := HFK.out (k + 1)
        rw [HKx.out] at hfk
        have hkx := HK5.out _ (List.getElem_mem hlk)
        have hcell := hx9 k hlk
        clear hx9
        simp only at hcell hkx hfk
        generalize mt[k] = X at *
        obtain ⟨mn, mps, mr, ms, ma, ml, mk, mc, mm, mtr⟩ := X
        obtain ⟨u1, u7, u8, u9, hmv, hce⟩ := hcell
        obtain ⟨r1, f1, e1, _⟩ := id hmv.params
        obtain ⟨r7, f7, e7, _⟩ := id hmv.code
        obtain ⟨r8, f8, e8, _⟩ := id hmv.maps
        obtain ⟨r9, f9, e9, _⟩ := id hmv.traps
        simp only at e1 e7 e8 e9
        subst e1 e7 e8 e9
        have g0 := hce 0 (by decide)
        have g1 := hce 1 (by decide)
        have g2 := hce 2 (by decide)
        have g3 := hce 3 (by decide)
        have g4 := hce 4 (by decide)
        have g5 := hce 5 (by decide)
        have g6 := hce 6 (by decide)
        have g7 := hce 7 (by decide)
        have g8 := hce 8 (by decide)
        have g9 := hce 9 (by decide)
        simp only [methCells, List.getElem?_toArray, List.getElem?_cons_zero, List.getElem?_cons_succ, Nat.add_zero] at g0 g1 g2 g3 g4 g5 g6 g7 g8 g9
        have z0m := cellOn g0 He0.bel
        have z1m := cellOn g1 He0.bel
        have z2m := cellOn g2 He0.bel
        have z3m := cellOn g3 He0.bel
        have z4m := cellOn g4 He0.bel
        have z5m := cellOn g5 He0.bel
        have z6m := cellOn g6 He0.bel
        have z7m := cellOn g7 He0.bel
        have z8m := cellOn g8 He0.bel
        have z9m := cellOn g9 He0.bel
        clear hce g0 g1 g2 g3 g4 g5 g6 g7 g8 g9
        have c0 := z0m
        generalize wK wM mt ss2 k = s0 at *
        have z0 := trivial
        have y0 := blk_cell BXe0 5
        simp only [List.getElem?_toArray, List.getElem?_cons_zero, List.getElem?_cons_succ] at y0
        have HD0 := vmeth_any (w.heap.size + 1) s0 mn mps mr ms ma ml mk mc mm mtr _ _ _ _ _ _ _ _ w wr He0 hmv hkx hfk
        go_wp2_with fail
        refine HD0.mono ?_
        rintro e we1 ⟨rfl, He1, Fe1⟩
        have BXe1 := blk_frr BXe0 Fe1
        have Fe1 := trivial
        clear HD0 BXe0 z0 y0 Fe0 He0
        go_wp2_with fail
        go_roundw
        case rel => exact ⟨k + 1, by omega, by go_num, by rw [HKx.out]; exact He1, BXe1, Fe1⟩
        case measure => simp [intOf]; omega
      have HEe := wK_end wM mt ss2 k (by omega)
      rw [HEe] at He0
      have hsz := He0.bel
      obtain ⟨ws, hws⟩ : ∃ x, x = wr := ⟨_, rfl⟩
      subst hws
      have xe := blk_cell BXe0 5
      simp only [List.getElem?_toArray, List.getElem?_cons_zero, List.getElem?_cons_succ] at xe
      clear HEe HFK hk

      have hSS : wL wM mt (wL wF fd (wL wT im (wB ifc (wT sp (wT nm sz))))) = wL wM mt ss2 := by rw [HSS1.out, HSS2.out]
      have HP0 := HWH.out
      have HF0 := T6.out
      rw [hSS] at HP0 HF0
      have HSQ : Hid _ := hSS
      clear hSS HSS1 HSS2 HWH T6 T5 HK4 HK5 HV t1 t2 t3 t4
      generalize wL wM mt ss2 = S at *
      obtain ⟨hf1, hf2⟩ := HF0
      have hp := HP0
      obtain ⟨bel, lo, ⟨v0, v1, BB, own0, own1⟩⟩ := He0
      obtain ⟨i0, hi, hz0, hz1, hz2⟩ := info_parts info8
      have HSL : Hid _ := pool_sl own1 hp
      obtain ⟨a1, c1, rfl⟩ : ∃ a c, v1 = .slice a S.pool.length c := by
        rcases own1.2 with ⟨rfl, h0⟩ | ⟨g, cap, cur, rfl, _⟩
        · exact ⟨none, 0, by rw [h0]⟩
        · exact ⟨_, cap, rfl⟩
      obtain ⟨a0, c0, rfl, hpar⟩ := own_shape own0
      have hel := enc_len S.pool.length
      have hcv := headW_conv ws
      obtain ⟨kf, hx⟩ := headW_facts ws
      generalize headW ws = Fh at *
      have x1 := blk_cell (blk_on BB kf) 0
      simp only [List.getElem?_toArray, List.getElem?_cons_zero, List.getElem?_cons_succ] at x1
      go_wp2_with fail
      clear hlk xe
      refine (ref_put S.pool.length _ (by unfold Is64; omega)).mono ?_
      rintro e w1 ⟨g1, cap1, rfl, own, b1⟩
      have hE := Has.own own
      have hx1 := hx.later b1
      have k1 := kf.trans (b1.mono kf.size)
      clear x1 hcv own hx kf b1
      go_upto_region 19 with (at_builtin; refine wpList_append_arg _ rfl (.tmp 82) (.tmp 88) 29 rfl 5 i0 (.int .u8 0) 1 1 Tryz.underlying29 hi hz0 hz1 hz2 rfl (by decide) ws.heap.size 0 4 4 (cellsOf magic) rfl rfl (fun j u hj => by have := hx1.news _ rfl j u hj; rwa [Addr.add_lit] at this) ⟨g1, 0, none⟩ ((enc S.pool.length).length) cap1 (cellsOf (enc S.pool.length)) rfl (by rw [cellsOf_length]; omega) (hE.news _ rfl) (cellsOf_one _) (fun h => absurd h (by omega)) (by unfold maxLen; omega) (by omega) (fun h => absurd h (by omega)) ?_; intro _ v2 w2 own2 gr2)
      have k2 : Below ws.heap.size ws w2 := k1.grown gr2 k1.size (fun k e => by cases e)
      rw [← cellsOf_append] at own2
      have own2 := own_low own2 k1.size
      obtain ⟨g2, cap2, rfl, _, _⟩ := own2.form (by omega)
      clear hx1 hE gr2 k1
      have HP : Hid _ := pool_small S.pool hp
      go_wp2_with fail
      go_loopw [6, 7] (fun v i wr' => ∃ (k g cap m : Nat), k ≤ S.pool.length ∧ i = .int .i64 k ∧ v = .slice (some ⟨g, 0, none⟩) m cap ∧ m = (magic ++ enc S.pool.length ++ poolB (S.pool.take k)).length ∧
          wr'.ownsRow ws.heap.size 5 1 (.slice (some ⟨g, 0, none⟩) m cap) m (cellsOf (magic ++ enc S.pool.length ++ poolB (S.pool.take k))) ∧ Below ws.heap.size ws wr') (fun _ i _ => S.pool.length - (intOf i).toNat)
      case atStart => exact ⟨0, g2, cap2, _, by omega, rfl, rfl, by simp [magic, poolB]; omega, by simpa [poolB] using own2, k2⟩
      case round =>
        clear own2 k2
        obtain ⟨k, g, cap, m, hk, rfl, rfl, hm, hown, hbel⟩ := hrel
        have HM : Hid _ := hm
        have hpk := HP.out k
        have hms : m ≤ 4 + 10 + S.pool.length * 110 := by rw [hm]; simp [magic]; omega
        clear hm hpk
        have y1 := blk_cell (blk_on BB hbel) 0
        simp only [List.getElem?_toArray, List.getElem?_cons_zero, List.getElem?_cons_succ] at y1
        by_cases hlk : k < S.pool.length
        · obtain ⟨aa, cc, ev, _, _, _, hx9⟩ := Sl.later strE_stable HSL.out hbel
          simp only [Value.slice.injEq, true_and] at ev
          obtain ⟨rfl, rfl⟩ := ev
          obtain ⟨b9, off9, rfl, _, hx9⟩ := hx9 (by omega)
          obtain ⟨z0, z1⟩ := hx9 k hlk
          simp only [Nat.mul_one] at z0
          have HS : Hid _ := pool_step S.pool k hlk
          have hok := hp _ (List.getElem_mem hlk)
          clear hx9 z1
          generalize S.pool[k] = X at *
          unfold okT at hok
          have hXl := encT_length X
          have hXe := enc_len X.size
          have hXb : (encT X).length ≤ 110 := by omega
          clear hXl hXe
          go_wp2_with fail
          refine (ref_text X _ (by omega)).mono ?_
          rintro e w2 ⟨g3, cap3, rfl, own3, b3⟩
          have hE := Has.own own3
          have hownk := own_later hown (b3.mono (Nat.le_refl _))
          have hb3 := hbel.trans (b3.mono hbel.size)
          go_upto_region 21 with (at_builtin; refine wpList_has _ rfl (.tmp 99) (.tmp 107) 29 rfl ws.heap.size i0 Tryz.underlying29 hi hz0 hz1 hz2 _ m _ rfl hownk (some ⟨g3, 0, none⟩) ((encT X).length) cap3 (encT X) rfl hE (by omega) hb3.size ?_; intro a' c' w4 own4 hE4 gr4)
          have hb4 := hb3.grown gr4 hb3.size (fun k e => (hownk.lt k e).1)
          obtain ⟨g4, cap4, e4, _, _⟩ := own4.form (by have := (enc_len X.size).1; have := encT_length X; omega)
          simp only [Value.slice.injEq] at e4
          obtain ⟨rfl, _, rfl⟩ := e4
          have hm4 : m + (encT X).length = (magic ++ enc S.pool.length ++ poolB (S.pool.take (k + 1))).length := by rw [HS.out, HM.out]; simp; omega
          have hc4 : magic ++ enc S.pool.length ++ poolB (S.pool.take k) ++ encT X = magic ++ enc S.pool.length ++ poolB (S.pool.take (k + 1)) := by rw [HS.out]; simp
          rw [hc4] at own4
          clear y1 z0
          go_wp2_with fail
          go_roundw
          case rel => exact ⟨k + 1, g4, _, _, by omega, by go_num, rfl, hm4, own4, hb4⟩
          case measure => simp [intOf]; omega
        · have hE0 := hpar.later hbel
          have z0 := blk_cell (blk_on BB hbel) 1
          simp only [List.getElem?_toArray, List.getElem?_cons_zero, List.getElem?_cons_succ] at z0
          have hT : S.pool.take k = S.pool := List.take_of_length_le (by omega)
          rw [hT] at hown
          have hHM := HM.out
          rw [hT] at hHM
          go_wp2_with (at_builtin; refine wpList_has _ rfl (.tmp 109) (.tmp 113) 29 rfl ws.heap.size i0 Tryz.underlying29 hi hz0 hz1 hz2 _ m _ rfl hown a0 S.out.length c0 S.out rfl hE0 (by omega) hbel.size ?_; intro a' c' w4 own4 hE4 gr4)
          have hb4 := hbel.grown gr4 hbel.size (fun k e => (hown.lt k e).1)
          have hl4 : m + S.out.length = (whole S).length := by rw [hHM]; unfold whole; simp; omega
          have hc4 : magic ++ enc S.pool.length ++ poolB S.pool ++ S.out = whole S := rfl
          rw [hc4, hl4] at own4
          obtain ⟨g4, cap4, e4, _, _⟩ := own4.form (by unfold whole; simp [magic])
          simp only [Value.slice.injEq] at e4
          obtain ⟨rfl, _, rfl⟩ := e4
          go_ret
          have hl5 : magic.length + ((enc S.pool.length).length + (poolB S.pool).length) + S.out.length = (whole S).length := by unfold whole; simp; omega
          rw [HSQ.out]
          exact ⟨g4, _, by simp [hl5], own_low own4 bel.size, bel.trans (hb4.mono bel.size)⟩
end Fil
end Go.Proofs.YtjblmgdjaaeedaaGreat
