/- Contracts and laws, texts of mine put into one. -/
import Derived.Test.YtjblmgdjaaeedaaGreatFilWhole
import Derived.Test.YtjblmgdjaaeedaaGreatFilMay
/- The contract of file.Encode: of any class in memory it answers the document's bytes, or nil. -/
namespace Go.Proofs.YtjblmgdjaaeedaaGreat
namespace Fil
open Num Kind Op4 Cls
open Go.RowKit
set_option linter.unusedVariables false
set_option linter.unusedSimpArgs false
set_option maxRecDepth 100000

theorem wrt_new (w0 w : World) (hb : Below w0.heap.size w0 w) : Wrt w0 ((w.alloc (.map #[] 0)).alloc (.cells #[.slice none 0 0, .slice none 0 0, .map (some w.heap.size)] 58)) (w.heap.size + 1) w.heap.size ⟨[], []⟩ := by
  have k1 := alloc1 w (.map #[] 0)
  have z1 := alloc_size w (.map #[] 0)
  have hm := World.ownsMap_made (H := Unit) w Tryz.prog 9 (plainElem Tryz.prog 3)
  generalize w.alloc (.map #[] 0) = w1 at *
  have k2 := alloc1 w1 (.cells #[.slice none 0 0, .slice none 0 0, .map (some w.heap.size)] 58)
  have BB := blk_new w1 #[.slice none 0 0, .slice none 0 0, .map (some w.heap.size)] 58
  rw [z1] at BB
  have hb1 := hb.trans (k1.mono hb.size)
  refine ⟨hb1.trans (k2.mono hb1.size), by have := hb.size; omega, hb.size, ⟨_, _, BB, World.ownsRow_nil _ _ _ _, World.ownsRow_nil _ _ _ _⟩, ⟨_, map_later hm k2, places_nil⟩⟩
theorem run_makeMapS (w : World) : (Instr.makeMap 56 none).run Tryz.prog w = .ok (.map (some w.heap.size)) (w.alloc (.map #[] 0)) := by kernel_rfl
set_option maxHeartbeats 4000000 in
theorem encode_any (v3 v4 v5 : Value) (c : ClsL) (w : World) (h : ClsV w v3 v4 v5 c) :
    Calls Tryz.prog 10 #[clsVal v3 v4 v5 c] w fun e w' => ∃ v, e = .returned v ∧ w'.ownsRow w.heap.size 5 1 v (encodeL c).length (cellsOf (encodeL c)) ∧ (encodeL c = [] → v = .slice none 0 0) ∧ Below w.heap.size w w' := by
  obtain ⟨nm, sp, ifc, impl, fields, methods⟩ := c
  obtain ⟨q3, d3, e3, _⟩ := h.impl
  obtain ⟨q4, d4, e4, _⟩ := h.fields
  obtain ⟨q5, d5, e5, _⟩ := h.methods
  simp only at e3 e4 e5
  subst e3 e4 e5
  have HMay := fun W b => cmay_any _ _ _ _ W (h.later b)
  have hmm := @run_makeMap Tryz.prog
  unfold clsVal at HMay ⊢
  simp only at HMay ⊢
  have ka := alloc1 w (.cells #[.string nm, .string sp, .bool ifc, .slice q3 impl.length d3, .slice q4 fields.length d4, .slice q5 methods.length d5] 26)
  have BX := blk_new w #[.string nm, .string sp, .bool ifc, .slice q3 impl.length d3, .slice q4 fields.length d4, .slice q5 methods.length d5] 26
  have HC0 := HMay _ ka
  cases hq : mayP ⟨nm, sp, ifc, impl, fields, methods⟩
  · have hv : encodeL ⟨nm, sp, ifc, impl, fields, methods⟩ = [] := by unfold encodeL; rw [if_neg (by simp [hq])]
    rw [hv]
    rw [hq] at HC0
    go_enter Tryz.func10, Tryz.ntmps10
    go_wp2_with fail
    refine HC0.mono ?_
    rintro e w1 ⟨rfl, b1⟩
    go_wp2_with fail
    go_ret
    exact ⟨_, rfl, World.ownsRow_nil _ _ _ _, fun _ => rfl, ka.trans (b1.mono ka.size)⟩
  · have hfit := may_fits hq
    have hok := may_ok hq
    rw [hq] at HC0
    generalize hE : encodeL ⟨nm, sp, ifc, impl, fields, methods⟩ = E
    have HE : Hid _ := hE
    clear hE
    go_enter Tryz.func10, Tryz.ntmps10
    go_wp2_with fail
    refine HC0.mono ?_
    rintro e w1 ⟨rfl, b1⟩
    have k1 := ka.trans (b1.mono ka.size)
    have BX1 := blk_on BX b1
    have W0 := wrt_new w w1 k1
    have kx := (alloc1 w1 (.map #[] 0)).trans ((alloc1 (w1.alloc (.map #[] 0)) (.cells #[.slice none 0 0, .slice none 0 0, .map (some w1.heap.size)] 58)).mono (alloc1 w1 (.map #[] 0)).size)
    have BX2 := blk_on BX1 kx
    have x0 := blk_cell BX2 0
    have x1 := blk_cell BX2 1
    have x2 := blk_cell BX2 2
    have x3 := blk_cell BX2 3
    have x4 := blk_cell BX2 4
    have x5 := blk_cell BX2 5
    simp only [List.getElem?_toArray, List.getElem?_cons_zero, List.getElem?_cons_succ] at x0 x1 x2 x3 x4 x5
    go_wp2_with fail
    generalize (w1.alloc (.map #[] 0)).alloc (.cells #[.slice none 0 0, .slice none 0 0, .map (some w1.heap.size)] 58) = w2 at *
    clear HC0 HMay hmm x0 x1 x2 x3 x4 x5 BX2 kx BX1 BX ka b1
    have HC1 := wcls_any _ _ _ nm sp ifc impl fields methods _ _ _ w w2 W0 h hok hfit.2
    refine HC1.mono ?_
    rintro e w3 ⟨rfl, H3, F3⟩
    have HC2 := whole_any _ _ _ w w3 H3 hfit.2 hfit.1
    have b3 := H3.bel
    clear HC1 W0 H3 F3 hfit hok
    have hB : whole (wC ⟨nm, sp, ifc, impl, fields, methods⟩ ⟨[], []⟩) = bytesL ⟨nm, sp, ifc, impl, fields, methods⟩ := rfl
    rw [hB] at HC2
    go_wp2_with fail
    refine HC2.mono ?_
    rintro e w4 ⟨g, cap, rfl, own4, b4⟩
    have k4 := b3.trans (b4.mono b3.size)
    have own4 := own_low own4 b3.size
    by_cases hl : (bytesL ⟨nm, sp, ifc, impl, fields, methods⟩).length ≤ 6000
    · have hv : encodeL ⟨nm, sp, ifc, impl, fields, methods⟩ = bytesL ⟨nm, sp, ifc, impl, fields, methods⟩ := by unfold encodeL; rw [if_pos ⟨hq, hl⟩]
      have hE := HE.out
      rw [hv] at hE
      have HNE : Hid (¬ bytesL ⟨nm, sp, ifc, impl, fields, methods⟩ = []) := by
        show ¬ _ = _
        unfold bytesL whole
        simp [magic]
      clear hv hB HE
      generalize bytesL ⟨nm, sp, ifc, impl, fields, methods⟩ = bs at *
      subst hE
      have dd : decide (6000 < (bs.length : Int)) = false := by simp; omega
      go_wp2_with fail
      go_ret
      exact ⟨_, rfl, own4, fun e => absurd e HNE.out, k4⟩
    · have hv : encodeL ⟨nm, sp, ifc, impl, fields, methods⟩ = [] := by unfold encodeL; rw [if_neg (fun h => hl h.2)]
      have hE := HE.out
      rw [hv] at hE
      clear hv hB HE
      generalize bytesL ⟨nm, sp, ifc, impl, fields, methods⟩ = bs at *
      subst hE
      have dd : decide (6000 < (bs.length : Int)) = true := by simp; omega
      go_wp2_with fail
      go_ret
      exact ⟨_, rfl, World.ownsRow_nil _ _ _ _, (by first | rfl | exact fun _ => rfl | simp), k4⟩
end Fil
end Go.Proofs.YtjblmgdjaaeedaaGreat

/- What is written of a class that may be is bytes. -/
namespace Go.Proofs.YtjblmgdjaaeedaaGreat
namespace Fil
open Num Kind Op4 Cls
set_option linter.unusedVariables false
set_option maxRecDepth 100000

def Byt (g : WS → WS) : Prop := Up g ∧ ∀ s : WS, Bytes s.out → (g s).pool.length ≤ 1000000000000 → Bytes (g s).out
theorem by_n (n : Int) (h : Is64 n) : Byt (wN n) := ⟨up_n n, fun s hs _ => bytes_append hs (enc_bd n h)⟩
theorem by_b (b : Bool) : Byt (wB b) := by_n _ (by cases b <;> unfold Is64 <;> decide)
theorem by_t (t : ByteArray) : Byt (wT t) := ⟨up_t t, fun s hs hl => by
  have h1 := idx_le s.pool t
  have h2 := (up_t t s).2
  exact bytes_append hs (enc_bd _ (by unfold Is64; omega))⟩
theorem Byt.then {g g' : WS → WS} (h : Byt g) (h' : Byt g') : Byt (fun s => g' (g s)) :=
  ⟨h.1.then h'.1, fun s hs hl => h'.2 _ (h.2 s hs (Nat.le_trans (h'.1 (g s)).2 hl)) hl⟩
theorem by_fold {α : Type} (f : α → WS → WS) : ∀ (l : List α), (∀ x ∈ l, Byt (f x)) → Byt (fun s => l.foldl (fun s x => f x s) s)
  | [], _ => ⟨fun s => ⟨Nat.le_refl _, Nat.le_refl _⟩, fun s hs _ => hs⟩
  | x :: l, h => (h x (List.mem_cons_self)).then (by_fold f l (fun y hy => h y (List.mem_cons_of_mem _ hy)))
theorem by_l {α : Type} (f : α → WS → WS) (l : List α) (hl : l.length ≤ 1000) (h : ∀ x ∈ l, Byt (f x)) : Byt (wL f l) := (by_n l.length (by unfold Is64; omega)).then (by_fold f l h)
theorem by_f (f : FieldL) : Byt (wF f) := ((by_t _).then (by_t _)).then (by_b _)
theorem by_i (x : InsL) (h : okI x) : Byt (wI x) := (((by_n _ h.1).then (by_n _ h.2.1)).then (by_t _)).then (by_t _)
theorem by_x (x : MapL) (h : okX x) : Byt (wX x) := ((by_n _ h.1).then (by_l wT _ h.2.1 (fun t _ => by_t t))).then (by_l wT _ h.2.2.1 (fun t _ => by_t t))
theorem by_r (x : TrapL) (h : okR x) : Byt (wR x) := (((by_n _ h.1).then (by_n _ h.2.1)).then (by_n _ h.2.2.1)).then (by_t _)
theorem by_m (m : MethL) (h : okM m) : Byt (wM m) := by
  obtain ⟨h1, h2, h3, h4, h5, h6, h7, h8⟩ := h
  exact (((((((((by_t _).then (by_l wT _ h5.1 (fun t _ => by_t t))).then (by_t _)).then (by_b _)).then (by_b _)).then (by_n _ h3)).then (by_n _ h4)).then
    (by_l wI _ h6.1 (fun x hx => by_i x (h6.2 x hx)))).then (by_l wX _ h7.1 (fun x hx => by_x x (h7.2 x hx)))).then (by_l wR _ h8.1 (fun x hx => by_r x (h8.2 x hx)))
theorem by_c (c : ClsL) (h : okC c) : Byt (wC c) := by
  obtain ⟨h1, h2, h3, h4, h5⟩ := h
  exact (((((by_t _).then (by_t _)).then (by_b _)).then (by_l wT _ h3.1 (fun t _ => by_t t))).then (by_l wF _ h4.1 (fun x _ => by_f x))).then (by_l wM _ h5.1 (fun x hx => by_m x (h5.2 x hx)))
theorem pool_bytes : ∀ p : List ByteArray, (∀ t ∈ p, okT t) → Bytes (poolB p)
  | [], _ => fun x hx => by simp [poolB] at hx
  | t :: p, h => by
    show Bytes (encT t ++ poolB p)
    exact bytes_append (encT_bytes t (h t (List.mem_cons_self))) (pool_bytes p (fun u hu => h u (List.mem_cons_of_mem _ hu)))
theorem bytesL_bytes (c : ClsL) (h : okC c) : Bytes (bytesL c) := by
  obtain ⟨a1, a2, a3⟩ := whole_ok c h
  have hb := (by_c c h).2 ⟨[], []⟩ (fun x hx => by cases hx) (by omega)
  have hm : Bytes magic := by intro x hx; simp [magic] at hx; omega
  unfold bytesL whole
  exact bytes_append (bytes_append (bytes_append hm (enc_bd _ (by unfold Is64; omega))) (pool_bytes _ a1)) hb
theorem encodeL_bytes (c : ClsL) : Bytes (encodeL c) := by
  unfold encodeL
  split
  · next h => exact bytesL_bytes c (may_ok h.1)
  · intro x hx; simp at hx
end Fil
end Go.Proofs.YtjblmgdjaaeedaaGreat
