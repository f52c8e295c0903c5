/- Contracts and laws, texts of mine put into one. -/
import Derived.Test.YtjblmgdjaaeedaaGreatFilW
import Derived.Test.YtjblmgdjaaeedaaGreatLibCut
import Derived.Test.YtjblmgdjaaeedaaGreatBaseOp
import Derived.Deep.RegionWith
import Derived.Handy
import Derived.Test.YtjblmgdjaaeedaaGreatFilSpec
import Derived.Test.YtjblmgdjaaeedaaGreatClsA
import Derived.Deep.RegionHeldLaw
import Derived.Deep.CutRange
import Derived.Deep.DeepCutAuto
import Derived.Deep.RegionHeld
import Derived.Test.YtjblmgdjaaeedaaGreatFilList
import Derived.Deep.MidRow
import Derived.Test.YtjblmgdjaaeedaaGreatClsGrow
import Derived.Test.YtjblmgdjaaeedaaGreatClsB
/- The laws' own Cut: texts. -/
namespace Go.Proofs.YtjblmgdjaaeedaaGreat
namespace Fil
open Num Kind Op4 Cls
open Go.RowKit
set_option linter.unusedVariables false
set_option linter.unusedSimpArgs false
set_option maxRecDepth 100000

def cutTs (n : Nat) (l : List ByteArray) : List ByteArray := (l.take n).map (cutS · 12)
theorem cutTs_len (n : Nat) (l : List ByteArray) : (cutTs n l).length = min n l.length := by simp [cutTs]
theorem cutTs_succ {n k : Nat} {l : List ByteArray} (hk : k < l.length) : (l.take (k + 1)).map (cutS · 12) = (l.take k).map (cutS · 12) ++ [cutS l[k] 12] := by
  rw [List.take_add_one, List.getElem?_eq_getElem hk, Option.toList_some, List.map_append]
  rfl
set_option maxHeartbeats 4000000 in
theorem texts_any (v : Value) (l : List ByteArray) (w : World) (n : Nat) (hn : n ≤ 100) (h : Sl strE 1 w v l) :
    Calls Tryz.prog 20 #[v, .int .i64 n] w fun e w' => ∃ v', e = .returned v' ∧ w'.ownsRow w.heap.size 9 1 v' (cutTs n l).length (strs (cutTs n l)) ∧ Below w.heap.size w w' := by
  obtain ⟨iS, hiS, hzS0, hzS1, hzS2⟩ := info_parts infoS
  have HT : Hid _ := h
  obtain ⟨a, cp, rfl, hl, hm, hnil, hx⟩ := h
  unfold maxLen at hm
  clear hx hnil
  go_enter Tryz.func20, Tryz.ntmps20
  go_wp2_with fail
  go_loopw [5, 6] (fun v' i wr => ∃ k : Nat, k ≤ l.length ∧ k ≤ n ∧ i = .int .i64 k ∧ wr.ownsRow w.heap.size 9 1 v' k (strs ((l.take k).map (cutS · 12))) ∧ Below w.heap.size w wr) (fun _ i _ => l.length - (intOf i).toNat)
  case atStart => exact ⟨0, by omega, by omega, rfl, World.ownsRow_nil _ _ _ _, Below.refl _ _⟩
  case round =>
    obtain ⟨k, hk, hkn, rfl, own, hbel⟩ := hrel
    by_cases hlk : k < l.length
    · by_cases hln : k < n
      · obtain ⟨aa, cc, ev, _, _, _, hx9⟩ := Sl.later strE_stable HT.out hbel
        simp only [Value.slice.injEq, true_and] at ev
        obtain ⟨rfl, rfl⟩ := ev
        obtain ⟨b9, off9, rfl, _, hx9⟩ := hx9 (by omega)
        obtain ⟨z0, z1⟩ := hx9 k hlk
        simp only [Nat.mul_one] at z0
        have HS : Hid _ := cutTs_succ (n := n) hlk
        clear hx9
        generalize l[k] = X at *
        have own2 := own.alloc (.cells #[.string (cutS X 12)] 9)
        have hnews := news_lit wr [.string (cutS X 12)] 9
        have ka := alloc1 wr (.cells #[.string (cutS X 12)] 9)
        have hB3 := Nat.le_trans hbel.size ka.size
        have hb2 := hbel.trans (ka.mono hbel.size)
        have hlow := fun g e => (own.lt g e).1
        have d1 : decide ((k : Int) < (l.length : Int)) = true := by simp; omega
        have d2 : decide ((k : Int) < (n : Int)) = true := by simp; omega
        have d3 : decide (k < l.length) = true := by simp; omega
        have d4 : decide (k < n) = true := by simp; omega
        go_wp2_with (first | (go_at_call 19; refine (cut_any X _ 12 12 rfl (by decide) z1).mono ?_; rintro e w' ⟨rfl, rfl⟩) | (at_builtin; refine wpList_append_lies _ rfl (.tmp 18) (.tmp 24) 22 rfl w.heap.size 9 iS (.string ⟨#[]⟩) 1 16 Tryz.underlying22 hiS hzS0 hzS1 hzS2 rfl (by decide) _ k (strs ((l.take k).map (cutS · 12))) rfl own2 ⟨wr.heap.size, 0, none⟩ 1 1 ([.string (cutS X 12)]) rfl rfl hnews (oneStr _) (by decide) (by unfold maxLen; omega) (by omega) hB3 _ rfl ?_; intro g' cap' w4 own4 g4 hat hlt))
        have hb4 := hb2.grown g4 hB3 hlow
        have e4 : strs ((l.take k).map (cutS · 12)) ++ [.string (cutS X 12)] = strs ((l.take (k + 1)).map (cutS · 12)) := by rw [HS.out]; simp [strs]
        rw [e4] at own4
        go_roundw
        case rel => exact ⟨k + 1, by omega, by omega, by go_num, own4, hb4⟩
        case measure => simp [intOf]; omega
      · have hkn : k = n := by omega
        have d1 : decide ((k : Int) < (l.length : Int)) = true := by simp; omega
        have d2 : decide ((k : Int) < (n : Int)) = false := by simp; omega
        have d3 : decide (k < l.length) = true := by simp; omega
        have d4 : decide (k < n) = false := by simp; omega
        have e1 : (cutTs n l).length = k := by rw [cutTs_len]; omega
        have e2 : (l.take k).map (cutS · 12) = cutTs n l := by rw [hkn]; rfl
        have HE : Hid (_ ∧ _) := ⟨e1, e2⟩
        clear e1 e2 hkn
        go_wp2_with fail
        go_ret
        exact ⟨_, rfl, by rw [HE.out.1, ← HE.out.2]; exact own, hbel⟩
    · have d1 : decide ((k : Int) < (l.length : Int)) = false := by simp; omega
      have d3 : decide (k < l.length) = false := by simp; omega
      have e1 : (cutTs n l).length = k := by rw [cutTs_len]; omega
      have e2 : (l.take k).map (cutS · 12) = cutTs n l := by unfold cutTs; rw [List.take_of_length_le (by omega), List.take_of_length_le (by omega)]
      have HE : Hid (_ ∧ _) := ⟨e1, e2⟩
      clear e1 e2
      go_wp2_with fail
      go_ret
      exact ⟨_, rfl, by rw [HE.out.1, ← HE.out.2]; exact own, hbel⟩
end Fil
end Go.Proofs.YtjblmgdjaaeedaaGreat

/- The contract of the laws' own Cut of an instruction. -/
namespace Go.Proofs.YtjblmgdjaaeedaaGreat
namespace Op4
open Num Kind
open Go.RowKit
set_option linter.unusedVariables false
set_option maxRecDepth 100000

set_option maxRecDepth 100000 in
set_option maxHeartbeats 1000000 in
theorem cut_ins (o a : Int) (c m : ByteArray) (w : World) (hc : c.size ≤ maxLen) (hm : m.size ≤ maxLen) :
    Calls Tryz.prog 43 #[insV o a c m] w fun e w' => e = .returned (insV o a (cutS c 14) (cutS m 12)) ∧ Below w.heap.size w w' := by
  unfold insV
  go_enter Tryz.func43, Tryz.ntmps43
  go_wp2_with fail
  go_region_with (first | (go_at_call_of 19 c; refine (cut_any c _ 14 14 rfl (by decide) hc).mono ?_; rintro e w' ⟨rfl, rfl⟩) | (go_at_call_of 19 m; refine (cut_any m _ 12 12 rfl (by decide) hm).mono ?_; rintro e w' ⟨rfl, rfl⟩))
  all_goals
    go_wp2_with fail
  all_goals
    go_returns
    refine ⟨rfl, ?_⟩
    go_grown
end Op4
end Go.Proofs.YtjblmgdjaaeedaaGreat

/- The laws' own Cut: methods. -/
namespace Go.Proofs.YtjblmgdjaaeedaaGreat
namespace Fil
open Num Kind Op4 Cls
open Go.RowKit
set_option linter.unusedVariables false
set_option linter.unusedSimpArgs false
set_option maxRecDepth 100000

def cutI (x : InsL) : InsL := ⟨x.o, x.a, cutS x.c 14, cutS x.m 12⟩
def cutX (x : MapL) : MapL := ⟨x.at', cutTs 20 x.locals, cutTs 20 x.stack⟩
def cutR (t : TrapL) : TrapL := ⟨t.from', t.to, t.at', cutS t.c 10⟩
def cutM (m : MethL) : MethL := ⟨cutS m.name 10, cutTs 8 m.params, cutS m.ret 12, m.static, m.abstract, m.locals, m.stack, (m.code.take 104).map cutI, (m.maps.take 104).map cutX, (m.traps.take 8).map cutR⟩
def icells (x : InsL) : List Value := [.int .i64 x.o, .int .i64 x.a, .string x.c, .string x.m]
def rcells (t : TrapL) : List Value := [.int .i64 t.from', .int .i64 t.to, .int .i64 t.at', .string t.c]
theorem flat_same {α : Type} (f : α → List Value) (size : Nat) (hf : ∀ x, (f x).length = size) : ∀ (l : List α) (q j : Nat) (hq : q < l.length), j < size → (l.flatMap f)[q * size + j]? = (f l[q])[j]?
  | x :: r, 0, j, _, hj => by
    rw [List.flatMap_cons, Nat.zero_mul, Nat.zero_add, List.getElem?_append_left (by rw [hf]; exact hj)]
    rfl
  | x :: r, q + 1, j, hq, hj => by
    have := flat_same f size hf r q j (by simpa using hq) hj
    rw [List.flatMap_cons, List.getElem?_append_right (by rw [hf, Nat.succ_mul]; omega), hf, show (q + 1) * size + j - size = q * size + j by rw [Nat.succ_mul]; omega, this]
    rfl
theorem map_succ {α β : Type} (f : α → β) {k : Nat} {l : List α} (hk : k < l.length) : (l.take (k + 1)).map f = (l.take k).map f ++ [f l[k]] := by
  rw [List.take_add_one, List.getElem?_eq_getElem hk, Option.toList_some, List.map_append]
  rfl
theorem cutS_max (s : ByteArray) (n : Nat) (h : n ≤ 100) : (cutS s n).size ≤ maxLen := by
  have := cutS_size s n
  unfold maxLen
  omega
theorem sl_ins {w : World} {base : Nat} {v : Value} {n : Nat} {l : List InsL} (h : w.ownsRow base 48 4 v n (l.flatMap icells)) (hl : l.length = n) (hs : ∀ x ∈ l, x.c.size ≤ maxLen ∧ x.m.size ≤ maxLen) : Sl insE 4 w v l :=
  Sl.own h hl (fun b hb i hi => by
    have hat := fun j hj => flat_same icells 4 (fun x => rfl) l i j hi hj
    exact ⟨⟨hb _ _ (hat 0 (by decide)), hb _ _ (hat 1 (by decide)), hb _ _ (hat 2 (by decide)), hb _ _ (hat 3 (by decide))⟩, hs _ (List.getElem_mem hi)⟩)
theorem sl_traps {w : World} {base : Nat} {v : Value} {n : Nat} {l : List TrapL} (h : w.ownsRow base 80 4 v n (l.flatMap rcells)) (hl : l.length = n) (hs : ∀ x ∈ l, x.c.size ≤ maxLen) : Sl trapE 4 w v l :=
  Sl.own h hl (fun b hb i hi => by
    have hat := fun j hj => flat_same rcells 4 (fun x => rfl) l i j hi hj
    exact ⟨hb _ _ (hat 0 (by decide)), hb _ _ (hat 1 (by decide)), hb _ _ (hat 2 (by decide)), hb _ _ (hat 3 (by decide)), hs _ (List.getElem_mem hi)⟩)
theorem sl_texts {w : World} {base : Nat} {v : Value} {n : Nat} {l : List ByteArray} (h : w.ownsRow base 9 1 v n (strs l)) (hl : l.length = n) (hs : ∀ x ∈ l, x.size ≤ maxLen) : Sl strE 1 w v l :=
  Sl.own h hl (fun b hc i hi => ⟨by rw [Nat.mul_one]; exact hc i _ (by simp [strs, List.getElem?_eq_getElem hi]), hs _ (List.getElem_mem hi)⟩)
theorem cutTs_small (n : Nat) (l : List ByteArray) : ∀ x ∈ cutTs n l, x.size ≤ maxLen := by
  intro x hx
  obtain ⟨y, _, rfl⟩ := List.mem_map.1 hx
  exact cutS_max _ _ (by decide)
theorem own_sl {w : World} {base e size n : Nat} {v : Value} {xs : List Value} (h : w.ownsRow base e size v n xs) : ∃ a c, v = .slice a n c := by
  rcases h with ⟨_, ⟨rfl, rfl⟩ | ⟨g, cap, _, rfl, _⟩⟩
  · exact ⟨_, _, rfl⟩
  · exact ⟨_, _, rfl⟩
theorem zed {W : World} {O : Nat} (h : W.heap[O]? = some (.cells #[.string ⟨#[]⟩, .slice none 0 0, .string ⟨#[]⟩, .bool false, .bool false, .int .i64 0, .int .i64 0, .slice none 0 0, .slice none 0 0, .slice none 0 0] 46 (0, 0))) : W.cell? ⟨O, 0, none⟩ = some (.string ⟨#[]⟩) ∧ W.cell? ⟨O, 1, none⟩ = some (.slice none 0 0) ∧ W.cell? ⟨O, 2, none⟩ = some (.string ⟨#[]⟩) ∧ W.cell? ⟨O, 3, none⟩ = some (.bool false) ∧ W.cell? ⟨O, 4, none⟩ = some (.bool false) ∧ W.cell? ⟨O, 5, none⟩ = some (.int .i64 0) ∧ W.cell? ⟨O, 6, none⟩ = some (.int .i64 0) ∧ W.cell? ⟨O, 7, none⟩ = some (.slice none 0 0) ∧ W.cell? ⟨O, 8, none⟩ = some (.slice none 0 0) ∧ W.cell? ⟨O, 9, none⟩ = some (.slice none 0 0) ∧ W.frozen? ⟨O, 0, none⟩ = false ∧ W.frozen? ⟨O, 1, none⟩ = false ∧ W.frozen? ⟨O, 2, none⟩ = false ∧ W.frozen? ⟨O, 3, none⟩ = false ∧ W.frozen? ⟨O, 4, none⟩ = false ∧ W.frozen? ⟨O, 5, none⟩ = false ∧ W.frozen? ⟨O, 6, none⟩ = false ∧ W.frozen? ⟨O, 7, none⟩ = false ∧ W.frozen? ⟨O, 8, none⟩ = false ∧ W.frozen? ⟨O, 9, none⟩ = false :=
  ⟨blk_cell h 0, blk_cell h 1, blk_cell h 2, blk_cell h 3, blk_cell h 4, blk_cell h 5, blk_cell h 6, blk_cell h 7, blk_cell h 8, blk_cell h 9, blk_free h 0, blk_free h 1, blk_free h 2, blk_free h 3, blk_free h 4, blk_free h 5, blk_free h 6, blk_free h 7, blk_free h 8, blk_free h 9⟩
def MCell (nm : ByteArray) (v1 : Value) (rt : ByteArray) (st ab : Bool) (lo sk : Int) (v7 v8 v9 : Value) : Array Value := #[.string nm, v1, .string rt, .bool st, .bool ab, .int .i64 lo, .int .i64 sk, v7, v8, v9]
end Fil
end Go.Proofs.YtjblmgdjaaeedaaGreat

/- Worlds of which all blocks of some element types are struck: what reads in them reads on while rows of those types are written. -/
namespace Go.Proofs.YtjblmgdjaaeedaaGreat
namespace Fil
open Num Kind Op4 Cls
open Go.RowKit
set_option linter.unusedVariables false
set_option linter.unusedSimpArgs false
set_option maxRecDepth 100000

def mskO (p : Nat → Bool) : Obj → Obj
  | .cells cs T fr => if p T then .cells #[] 0 (0, 0) else .cells cs T fr
  | o => o
/-- The world of which all blocks are struck whose element type is one of p's. -/
def msk (p : Nat → Bool) (w : World) : World := { w with heap := w.heap.map (mskO p) }
theorem msk_size (p : Nat → Bool) (w : World) : (msk p w).heap.size = w.heap.size := by simp [msk]
theorem msk_blk {p : Nat → Bool} {w : World} {b : Nat} {cs : Array Value} {T : Nat} {fr : Nat × Nat} (h : w.heap[b]? = some (.cells cs T fr)) (hp : p T = false) : (msk p w).heap[b]? = some (.cells cs T fr) := by
  simp [msk, h, mskO, hp]
/-- A cell that reads in the struck world: its block is none of p's. -/
theorem msk_cell {p : Nat → Bool} {w : World} {a : Addr} {v : Value} (h : (msk p w).cell? a = some v) : ∃ o, w.heap[a.block]? = some o ∧ (msk p w).heap[a.block]? = some o ∧ (∀ cs T fr, o = .cells cs T fr → p T = false) := by
  by_cases hlt : a.block < w.heap.size
  · cases ho : w.heap[a.block] with
    | cells cs T fr =>
      have hb : w.heap[a.block]? = some (.cells cs T fr) := by rw [Array.getElem?_eq_getElem hlt, ho]
      cases hp : p T
      · exact ⟨_, hb, msk_blk hb hp, fun _ _ _ e => by cases e; exact hp⟩
      · have : (msk p w).heap[a.block]? = some (.cells #[] 0 (0, 0)) := by simp [msk, hb, mskO, hp]
        simp [World.cell?, this] at h
    | _ =>
      have hb := Array.getElem?_eq_getElem hlt
      rw [ho] at hb
      have h2 : (msk p w).heap[a.block]? = w.heap[a.block]? := by simp [msk, hb, mskO]
      exact ⟨_, hb, h2.trans hb, fun _ _ _ e => by cases e⟩
  · have : (msk p w).heap[a.block]? = none := Array.getElem?_eq_none (by rw [msk_size]; omega)
    simp [World.cell?, this] at h
theorem ext_of {p q : Nat → Bool} {w w' : World} (hs : w.heap.size ≤ w'.heap.size) (h : ∀ (b : Nat) (o : Obj), w.heap[b]? = some o → (∀ cs T fr, o = .cells cs T fr → p T = false) → w'.heap[b]? = some o) (hpq : ∀ T, p T = false → q T = false) : Ext (msk p w) (msk q w') := by
  refine ⟨by rw [msk_size, msk_size]; exact hs, fun a v hv => ?_⟩
  obtain ⟨o, h1, h2, h3⟩ := msk_cell hv
  have h4 := h _ _ h1 h3
  have h5 : (msk q w').heap[a.block]? = some o := by
    cases o with
    | cells cs T fr => exact msk_blk h4 (hpq _ (h3 _ _ _ rfl))
    | _ => simp [msk, h4, mskO]
  rw [← hv]
  exact World.cell?_of_block (h5.trans h2.symm)
theorem Ext.refl (w : World) : Ext w w := ⟨Nat.le_refl _, fun _ _ h => h⟩
theorem Ext.trans {a b c : World} (h : Ext a b) (h' : Ext b c) : Ext a c := ⟨Nat.le_trans h.1 h'.1, fun x v hv => h'.2 _ _ (h.2 _ _ hv)⟩
theorem ext_id (p : Nat → Bool) (w : World) : Ext (msk p w) w := by
  refine ⟨by rw [msk_size]; exact Nat.le_refl _, fun a v hv => ?_⟩
  obtain ⟨o, h1, h2, _⟩ := msk_cell hv
  rw [← hv]
  exact World.cell?_of_block (h1.trans h2.symm)
theorem ext_mono {p q : Nat → Bool} (w : World) (hpq : ∀ T, p T = false → q T = false) : Ext (msk p w) (msk q w) := ext_of (Nat.le_refl _) (fun _ _ h _ => h) hpq
theorem ext_below {p : Nat → Bool} {w w' : World} (h : Below w.heap.size w w') : Ext (msk p w) (msk p w') :=
  ext_of h.size (fun b o ho _ => by rw [h.block b (Array.getElem?_eq_some_iff.1 ho).1]; exact ho) (fun _ h => h)
theorem ext_grown {p : Nat → Bool} {w w' : World} {base e size n : Nat} {v : Value} {xs : List Value} (ho : w.ownsRow base e size v n xs) (hp : p e = true) (hg : w.grownBy w' v.ownBlock) : Ext (msk p w) (msk p w') :=
  ext_of hg.size (fun b o hb hT => by
    rw [hg.block b (Array.getElem?_eq_some_iff.1 hb).1 (fun e' => ?_)]
    · exact hb
    · cases o with
      | cells cs T fr =>
        have h1 := own_type ho e'.symm hb
        have h2 := hT _ _ _ rfl
        rw [h1, hp] at h2
        cases h2
      | _ =>
        rcases ho.2 with ⟨rfl, _⟩ | ⟨g', cap, cur, rfl, _, hg', _⟩
        · cases e'
        · have e1 : b = g' := by simpa [Value.ownBlock] using e'
          subst e1
          rw [hg'] at hb
          cases hb) (fun _ h => h)
theorem ext_set {p : Nat → Bool} {w : World} {B T : Nat} {cs : Array Value} (hb : w.heap[B]? = some (.cells cs T (0, 0))) (hp : p T = true) (j : Nat) (u : Value) : Ext (msk p w) (msk p (w.setCell ⟨B, j, none⟩ u)) :=
  ext_of (by simp [World.setCell]) (fun b o hbo hT => by
    rw [Below.heap_setCell _ _ _ _ (fun e => ?_)]
    · exact hbo
    · simp only at e
      subst e
      rw [hb] at hbo
      cases hbo
      have := hT _ _ _ rfl
      rw [hp] at this
      cases this) (fun _ h => h)
theorem own_msk {p : Nat → Bool} {w : World} {base e size n : Nat} {v : Value} {xs : List Value} (h : w.ownsRow base e size v n xs) (hp : p e = false) : (msk p w).ownsRow base e size v n xs := by
  obtain ⟨h1, h2⟩ := h
  refine ⟨h1, ?_⟩
  rcases h2 with h2 | ⟨g, cap, cur, hv, hb, hg, r⟩
  · exact .inl h2
  · exact .inr ⟨g, cap, cur, hv, hb, msk_blk hg hp, r⟩
/-! Stores of a whole struct. -/
theorem there_blk {w : World} {B T n : Nat} {cs : Array Value} (h : w.heap[B]? = some (.cells cs T (0, 0))) (hn : n ≤ cs.size) : w.there B 0 n := fun j hj => by
  rw [Nat.zero_add]
  refine ⟨?_, blk_free h j⟩
  rw [blk_cell h]
  simp
  omega
def setAll (cs : Array Value) (o : Nat) : List Value → Array Value
  | [] => cs
  | v :: r => setAll (cs.setIfInBounds o v) (o + 1) r
theorem blk_sets {B T : Nat} : ∀ (vs : List Value) (o : Nat) (w : World) (cs : Array Value), w.heap[B]? = some (.cells cs T (0, 0)) → (w.setCells B o vs).heap[B]? = some (.cells (setAll cs o vs) T (0, 0))
  | [], _, _, _, h => h
  | v :: r, o, w, cs, h => blk_sets r (o + 1) _ _ (blk_set h o v)
theorem heap_sets {B : Nat} : ∀ (vs : List Value) (o : Nat) (w : World) (k : Nat), k ≠ B → (w.setCells B o vs).heap[k]? = w.heap[k]?
  | [], _, _, _, _ => rfl
  | v :: r, o, w, k, h => (heap_sets r (o + 1) _ k h).trans (Below.heap_setCell _ _ _ _ h)
theorem below_sets {B0 B : Nat} {a : World} (hB : B0 ≤ B) : ∀ (vs : List Value) (o : Nat) (w : World), Below B0 a w → Below B0 a (w.setCells B o vs)
  | [], _, _, h => h
  | v :: r, o, w, h => below_sets hB r (o + 1) _ (h.setCell (p := ⟨B, o, none⟩) hB v)
theorem ext_sets {p : Nat → Bool} {B T : Nat} (hp : p T = true) : ∀ (vs : List Value) (o : Nat) (w : World) (cs : Array Value), w.heap[B]? = some (.cells cs T (0, 0)) → Ext (msk p w) (msk p (w.setCells B o vs))
  | [], _, _, _, _ => Ext.refl _
  | v :: r, o, w, cs, h => (ext_set h hp o v).trans (ext_sets hp r (o + 1) _ _ (blk_set h o v))
theorem own_sets {w : World} {B : Nat} {base e size n : Nat} {v : Value} {xs : List Value} (h : w.ownsRow base e size v n xs) (hne : some B ≠ v.ownBlock) (vs : List Value) (o : Nat) : (w.setCells B o vs).ownsRow base e size v n xs := by
  obtain ⟨h1, h2⟩ := h
  refine ⟨h1, ?_⟩
  rcases h2 with h2 | ⟨g, cap, cur, hv, hb, hg, r⟩
  · exact .inl h2
  · subst hv
    refine .inr ⟨g, cap, cur, rfl, hb, ?_, r⟩
    rw [heap_sets vs o w g (fun e => hne (by rw [e]; rfl))]
    exact hg
end Fil
end Go.Proofs.YtjblmgdjaaeedaaGreat

/- What ClassMaps builds in memory; ClassMaps at arguments that it does not look at. -/
namespace Go.Proofs.YtjblmgdjaaeedaaGreat
namespace ClassMaps
open Num Kind Op4 Cls
open Go.RowKit
set_option linter.unusedVariables false
set_option maxRecDepth 100000

theorem own_ne_blk {w : World} {base e size n B T : Nat} {v : Value} {xs : List Value} {cs : Array Value} (h : w.ownsRow base e size v n xs) (hb : w.heap[B]? = some (.cells cs T (0, 0))) (hne : e ≠ T) : some B ≠ v.ownBlock := by
  rcases h.2 with ⟨rfl, _⟩ | ⟨g, cap, cur, rfl, _, hg, _⟩
  · intro e; cases e
  · intro e1
    have e2 : B = g := by simpa [Value.ownBlock] using e1
    subst e2
    rw [hg] at hb
    simp at hb
    exact hne hb.2
theorem blk_other {w : World} {B T : Nat} {cs : Array Value} (h : w.heap[B]? = some (.cells cs T (0, 0))) {a : Addr} (u : Value) (hne : B ≠ a.block) : (w.setCell a u).heap[B]? = some (.cells cs T (0, 0)) := by
  rw [Below.heap_setCell _ _ _ _ hne]
  exact h
def i4 : List Value := [.int .i64 46, .int .i64 0, .string ⟨#[]⟩, .string ⟨#[]⟩]
def rep (c : List Value) : Nat → List Value
  | 0 => []
  | n + 1 => rep c n ++ c
theorem rep_length (c : List Value) : ∀ n, (rep c n).length = n * c.length
  | 0 => by simp [rep]
  | n + 1 => by rw [rep, List.length_append, rep_length c n, Nat.succ_mul]
theorem rep_at (c : List Value) : ∀ (n q j : Nat), q < n → j < c.length → (rep c n)[q * c.length + j]? = c[j]?
  | n + 1, q, j, hq, hj => by
    by_cases h : q < n
    · have h1 : (q + 1) * c.length ≤ n * c.length := Nat.mul_le_mul_right _ (by omega)
      rw [Nat.succ_mul] at h1
      rw [rep, List.getElem?_append_left (by rw [rep_length]; omega)]
      exact rep_at c n q j h hj
    · obtain rfl : q = n := by omega
      rw [rep, List.getElem?_append_right (by rw [rep_length]; omega), rep_length]
      congr 1
      omega
abbrev X3 : Type := Int × Value × Value
def xcells (t : X3) : List Value := [.int .i64 t.1, t.2.1, t.2.2]
def cellsX : List X3 → List Value
  | [] => []
  | t :: r => xcells t ++ cellsX r
theorem cellsX_snoc (t : X3) : ∀ (l : List X3), cellsX (l ++ [t]) = cellsX l ++ xcells t
  | [] => by simp [cellsX]
  | x :: r => by
    show xcells x ++ cellsX (r ++ [t]) = (xcells x ++ cellsX r) ++ xcells t
    rw [cellsX_snoc t r, List.append_assoc]
theorem cellsX_at : ∀ (l : List X3) (q j : Nat) (hq : q < l.length), j < 3 → (cellsX l)[q * 3 + j]? = (xcells l[q])[j]?
  | x :: r, 0, j, _, hj => by
    show (xcells x ++ cellsX r)[0 * 3 + j]? = _
    rw [Nat.zero_mul, Nat.zero_add, List.getElem?_append_left (by simpa [xcells] using hj)]
    rfl
  | x :: r, q + 1, j, hq, hj => by
    have hq' : q < r.length := by simpa using hq
    have := cellsX_at r q j hq' hj
    show (xcells x ++ cellsX r)[(q + 1) * 3 + j]? = _
    rw [List.getElem?_append_right (by simp [xcells]; omega), show (q + 1) * 3 + j - (xcells x).length = q * 3 + j by simp [xcells]; omega, this]
    rfl
structure InnX (w : World) (base nl : Nat) (a b : ByteArray) (t : X3) : Prop where
  l : w.ownsRow base 9 1 t.2.1 nl (rep [.string a] nl)
  s : w.ownsRow base 9 1 t.2.2 1 (rep [.string b] 1)
theorem InnX.later {w w' : World} {base nl : Nat} {a b : ByteArray} {t : X3} (h : InnX w base nl a b t) (hb : Below w.heap.size w w') : InnX w' base nl a b t := ⟨own_later h.l hb, own_later h.s hb⟩
theorem InnX.low {w : World} {base base' nl : Nat} {a b : ByteArray} {t : X3} (h : InnX w base nl a b t) (hb : base' ≤ base) : InnX w base' nl a b t := ⟨own_low h.l hb, own_low h.s hb⟩
theorem InnX.grown {w w' : World} {base base' nl n : Nat} {a b : ByteArray} {t : X3} {v : Value} {xs : List Value} (h : InnX w base nl a b t) (ho : w.ownsRow base' 50 3 v n xs) (hg : w.grownBy w' v.ownBlock) : InnX w' base nl a b t :=
  ⟨h.l.kept hg (own_apart h.l ho (by decide)), h.s.kept hg (own_apart h.s ho (by decide))⟩
theorem InnX.set {w : World} {base nl B : Nat} {cs : Array Value} {a b : ByteArray} {t : X3} (h : InnX w base nl a b t) (hB : w.heap[B]? = some (.cells cs 46 (0, 0))) (j : Nat) (u : Value) : InnX (w.setCell ⟨B, j, none⟩ u) base nl a b t :=
  ⟨ownsRow_setCell_other h.l (fun e => own_ne_blk h.l hB (by decide) e.symm) u, ownsRow_setCell_other h.s (fun e => own_ne_blk h.s hB (by decide) e.symm) u⟩
def mapX (nl : Nat) (a b : ByteArray) (t : X3) : MapL := ⟨t.1, List.replicate nl a, [b]⟩
theorem InnX.map {w : World} {base nl : Nat} {a b : ByteArray} {t : X3} (h : InnX w base nl a b t) (ha : a.size ≤ maxLen) (hb : b.size ≤ maxLen) : Sl strE 1 w t.2.1 (List.replicate nl a) ∧ Sl strE 1 w t.2.2 [b] := by
  refine ⟨Sl.own h.l (by simp) fun bk hk q hq => ?_, Sl.own h.s rfl fun bk hk q hq => ?_⟩
  · have hq' : q < nl := by simpa using hq
    rw [List.getElem_replicate]
    exact ⟨hk _ _ (by have := rep_at [.string a] nl q 0 hq' (by simp); simpa using this), ha⟩
  · obtain rfl : q = 0 := by simpa using hq
    exact ⟨hk _ _ rfl, hb⟩
def mapsM (nl nk : Nat) (a b : ByteArray) (XL : List X3) : MethL := ⟨⟨#[109, 97, 105, 110]⟩, [], ⟨#[86]⟩, true, false, nl, nk, List.replicate 10 oneI, XL.map (mapX nl a b), []⟩
def mapsL (nl nk : Nat) (a b : ByteArray) (XL : List X3) : ClsL := ⟨⟨#[65, 98]⟩, ⟨#[79, 98, 106, 101, 99, 116]⟩, false, [], [oneF], [mapsM nl nk a b XL]⟩
theorem maps_cls {w : World} {B nl nk : Nat} {a b : ByteArray} {v7 v8 : Value} {XL : List X3} {base : Nat} (ha : a.size ≤ maxLen) (hb : b.size ≤ maxLen)
    (BF : w.heap[B + 1]? = some (.cells #[.string ⟨#[120]⟩, .string ⟨#[73]⟩, .bool false] 40 (0, 0)))
    (BM : w.heap[B + 1 + 1 + 1]? = some (.cells #[.string ⟨#[109, 97, 105, 110]⟩, .slice none 0 0, .string ⟨#[86]⟩, .bool true, .bool false, .int .i64 nl, .int .i64 nk, v7, v8, .slice none 0 0] 46 (0, 0)))
    (o7 : w.ownsRow base 48 4 v7 10 (rep i4 10)) (o8 : w.ownsRow base 50 3 v8 XL.length (cellsX XL)) (hX : ∀ t ∈ XL, InnX w base nl a b t) :
    ClsV w (.slice none 0 0) (.slice (some ⟨B + 1, 0, none⟩) 1 1) (.slice (some ⟨B + 1 + 1 + 1, 0, none⟩) 1 1) (mapsL nl nk a b XL) := by
  refine ⟨Sl.none _ _ _, Sl.one (lt_of_block BF) ⟨blk_cell BF 0, blk_cell BF 1, blk_cell BF 2, by decide, by decide⟩, Sl.one (lt_of_block BM) ⟨.slice none 0 0, v7, v8, .slice none 0 0, ⟨Sl.none _ _ _, Sl.own o7 (by simp [mapsM]) fun bk hk q hq => ?_, Sl.own o8 (by simp [mapsM]) fun bk hk q hq => ?_, Sl.none _ _ _, (by decide : (4 : Nat) ≤ maxLen), (by decide : (1 : Nat) ≤ maxLen)⟩, fun j hj => ?_⟩, (by decide : (2 : Nat) ≤ maxLen), (by decide : (6 : Nat) ≤ maxLen)⟩
  · have hq' : q < 10 := by simpa [mapsM] using hq
    have e : (mapsM nl nk a b XL).code[q] = oneI := List.eq_of_mem_replicate (List.getElem_mem hq)
    refine Eq.mpr (congrArg (insE w bk (q * 4)) e) ?_
    exact ⟨⟨hk _ _ (rep_at i4 10 q 0 hq' (by decide)), hk _ _ (rep_at i4 10 q 1 hq' (by decide)), hk _ _ (rep_at i4 10 q 2 hq' (by decide)), hk _ _ (rep_at i4 10 q 3 hq' (by decide))⟩, by decide, by decide⟩
  · have hq' : q < XL.length := by simpa [mapsM] using hq
    have e : (mapsM nl nk a b XL).maps[q] = mapX nl a b XL[q] := by simp [mapsM]
    refine Eq.mpr (congrArg (mapE w bk (q * 3)) e) ?_
    have hm := (hX _ (List.getElem_mem hq')).map ha hb
    exact ⟨XL[q].2.1, XL[q].2.2, hk _ _ (cellsX_at XL q 0 hq' (by decide)), hk _ _ (cellsX_at XL q 1 hq' (by decide)), hk _ _ (cellsX_at XL q 2 hq' (by decide)), hm.1, hm.2⟩
  · rw [Nat.zero_add, blk_cell BM j]
    rfl
end ClassMaps
end Go.Proofs.YtjblmgdjaaeedaaGreat
