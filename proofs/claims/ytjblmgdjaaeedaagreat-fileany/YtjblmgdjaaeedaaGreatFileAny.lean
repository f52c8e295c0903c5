/- FileAny: any bytes are a class's, just its, or none's; those that were changed, cut off, doubled, too: for every input, no condition. (Written by tools/gen/genany.py.) -/
import Derived.Test.YtjblmgdjaaeedaaGreatFilTells
import Derived.Test.YtjblmgdjaaeedaaGreatFilCutC
import Derived.Test.YtjblmgdjaaeedaaGreatFilOpen
import Derived.Test.YtjblmgdjaaeedaaGreatLibShort
import Derived.Test.YtjblmgdjaaeedaaGreatLibStep
import Derived.Test.YtjblmgdjaaeedaaGreatRows
import Derived.Test.YtjblmgdjaaeedaaGreatChecked
import Derived.WalkKit
import Derived.ProofKit
import Derived.OpenShut
import Derived.ShutString
import Derived.ChangeOld
import Derived.Below
import Derived.Deep.RegionHeld
namespace Go.Proofs.YtjblmgdjaaeedaaGreat
namespace FileAny
open Num Kind Op4 Cls Fil
open Go.ChangeShapes Go.WideShapes Go.ChangeAt Go.RowKit
open Go.ChangeMaps (open_string shut_string)
set_option linter.unusedVariables false
set_option linter.unusedSimpArgs false
set_option maxRecDepth 100000

theorem wpList_cat {P : Program} {ops : Array Oper} {rest : List Oper} {o : Oper} {a : Act} {w : World} {Q : Exit → Act → World → Prop} (s x : Operand) (t : TypeId)
    (hop : o.op = Op.call { callee := Callee.builtin Builtin.append, args := #[s, x], argTypes := #[t, t] }) (hw : Region.wanted o (yielded ops a.tmps) = true)
    (v1 v2 v' : Value) (w' : World) (hs : a.eval s = v1) (hx : a.eval x = v2) (hrun : (Builtin.append_ #[t, t] o.type #[v1, v2]).run P w = .ok v' w')
    (h : wpList P ops Q rest (a.put o.dst v') w') : wpList P ops Q (o :: rest) a w := by
  refine wpList_step fun K hK => ?_
  rw [if_pos hw]
  unfold Oper.wp
  simp [execOp, hop, resolve, invoke, builtin, hs, hx, hrun, Result.andThen]
  exact hK _ _ h
theorem bytes_drop {xs : List Int} (h : Bytes xs) (k : Nat) : Bytes (xs.drop k) := fun x hx => h x (List.mem_of_mem_drop hx)
theorem byte_one {x : Int} (h : (Lit.int .u8 x).wf = true) : Bytes [x] := fun y hy => by
  rw [List.mem_singleton.1 hy]
  exact bounds_u8 h
theorem bytes_set {xs : List Int} (h : Bytes xs) (k : Nat) (v : Int) (hv : 0 ≤ v ∧ v ≤ 255) : Bytes (xs.set k v) := fun x hx => by
  rcases List.mem_or_eq_of_mem_set hx with hx | rfl
  · exact h x hx
  · exact hv
theorem xor_byte (y x : Int) : 0 ≤ bits BinOp.xor IntKind.u8 y x ∧ bits BinOp.xor IntKind.u8 y x ≤ 255 := bounds_u8 (wf_bits _ _ _ _)
theorem own_free {w : World} {base g n cap : Nat} {xs : List Int} (h : w.ownsRow base 5 1 (.slice (some ⟨g, 0, none⟩) n cap) n (cellsOf xs)) (i : Nat) : w.frozen? ⟨g, i, none⟩ = false := by
  rcases h.2 with ⟨e, _⟩ | ⟨g', cap', cur, e, _, hg, _⟩
  · cases e
  · have e1 : g = g' := by simpa [Value.ownBlock] using congrArg Value.ownBlock e
    subst e1
    exact blk_free hg i
theorem has_set {w : World} {g n c : Nat} {xs : List Int} (h : Has w (some ⟨g, 0, none⟩) n c xs) {k : Nat} (hk : k < n) (v : Int) : Has (w.setCell ⟨g, k, none⟩ (.int .u8 v)) (some ⟨g, 0, none⟩) n c (xs.set k v) := by
  refine ⟨by rw [List.length_set]; exact h.len, h.cap, h.max, fun e => (by cases e), fun h0 => ?_⟩
  obtain ⟨b, off, e, hlt, hc⟩ := h.cells h0
  simp only [Option.some.injEq, Addr.mk.injEq, and_true] at e
  obtain ⟨rfl, rfl⟩ := e
  refine ⟨g, 0, rfl, by simpa [World.setCell] using hlt, fun i hi => ?_⟩
  by_cases e : i = k
  · subst e
    have hz := hc i hi
    rw [Nat.zero_add] at hz ⊢
    rw [World.cell?_setCell_same' _ _ _ (by rw [hz]; rfl)]
    simp [List.getD, h.len, hi]
  · rw [World.cell?_setCell_other _ _ _ _ (fun q => e (by simpa using congrArg Addr.off q.symm)), hc i hi]
    simp [List.getD, List.getElem?_set_ne (Ne.symm e)]
theorem has_drop_if {w : World} {g n c : Nat} {xs : List Int} (h : Has w (some ⟨g, 0, none⟩) n c xs) (k : Nat) (hk : k ≤ n) : Has w (if c = k then some ⟨g, 0, none⟩ else some ⟨g, k, none⟩) (n - k) (c - k) (xs.drop k) := by
  have hcap := h.cap
  have hlen := h.len
  by_cases e : c = k
  · rw [if_pos e]
    exact ⟨by rw [List.length_drop, hlen], by omega, by have := h.max; omega, fun e => (by cases e), fun h0 => absurd h0 (by omega)⟩
  · rw [if_neg e]
    have := Has.drop h k hk
    rwa [Nat.zero_add] at this
theorem bytes_magic : Bytes magic := fun x hx => by
  simp [magic] at hx
  omega
theorem cat_run (w : World) (g m c : Nat) (sa : Option Addr) (ys : List Int) (h1 : Has w (some ⟨g, 0, none⟩) 4 4 magic) (h2 : Has w sa m c ys) (hm : m ≤ 1000) :
    ∃ a' c' w', (Builtin.append_ #[29, 29] 29 #[.slice (some ⟨g, 0, none⟩) 4 4, .slice sa m c]).run Tryz.prog w = .ok (.slice a' (4 + m) c') w' ∧ Has w' a' (4 + m) c' (magic ++ ys) ∧ Below w.heap.size w w' := by
  obtain ⟨i0, hi, hz0, hz1, hz2⟩ := info_parts info8
  have hy := h2.len
  cases sa with
  | none =>
    obtain ⟨rfl, rfl⟩ := h2.nil rfl
    obtain rfl : ys = [] := List.eq_nil_of_length_eq_zero h2.len
    refine ⟨_, _, w, ?_, by simpa using h1, Below.refl _ _⟩
    simp [Builtin.append_, run_underlying Tryz.underlying29, sizeOf, typeInfo, hi, Builtin.lenOf, Builtin.firstCells, storeCells]
  | some ad =>
    by_cases h0 : m = 0
    · subst h0
      obtain rfl : ys = [] := List.eq_nil_of_length_eq_zero h2.len
      have hr := run_append_room_cells (P := Tryz.prog) w 29 29 5 i0 Tryz.underlying29 hi g 0 4 4 ad 0 c [] (by simp) (fun j u hj => by simp at hj) (fun u hu => by cases hu) (Nat.le_refl _) (fun j hj => absurd hj (by simp)) (fun j hj => absurd hj (by simp))
      exact ⟨_, _, _, hr, by simpa [World.setCells] using h1, Below.refl _ _⟩
    · obtain ⟨v', w', hrun, r1, r2⟩ := run_append_arg_grows (P := Tryz.prog) w 29 29 5 i0 (.int .u8 0) 1 1 Tryz.underlying29 hi hz0 hz1 hz2 rfl (by decide) ⟨g, 0, none⟩ 4 4 (cellsOf magic) rfl (h1.news _ rfl) ad m c (cellsOf ys) (by rw [cellsOf_length, hy, Nat.mul_one]) (h2.news _ rfl) (by omega) (by unfold maxLen; omega) (by omega)
      rw [← cellsOf_append] at r1
      obtain ⟨a', c', rfl, hh⟩ := own_shape r1
      exact ⟨_, _, _, hrun, hh, (Below.refl _ _).grown r2 (Nat.le_refl _) (fun k e => by cases e)⟩

set_option maxHeartbeats 16000000 in
theorem walk (b0 : Option Addr) (len0 cap0 : Nat) (z0 : List Int) (v3 v4 v5 : Value) (c0 : ClsL) (at' x how : Int) (w : World) (hb : IsRow .u8 w b0 len0 cap0 z0) (hc : ClsV w v3 v4 v5 c0) (wat : (Lit.int .i64 at').wf = true) (wx : (Lit.int .u8 x).wf = true) (whow : (Lit.int .i64 how).wf = true) :
    Calls Tryz.prog 4 #[.slice b0 len0 cap0, clsVal v3 v4 v5 c0, .int .i64 at', .int .u8 x, .int .i64 how] w fun e w' => e = .returned (.bool true) ∧ Below w.heap.size w w' := by
  obtain ⟨hR, hB⟩ := hb.has
  generalize z0.take len0 = xs at *
  obtain ⟨nm, su, fa, im, fs, ms⟩ := c0
  obtain ⟨q3, d3, rfl, _⟩ := id hc.impl
  obtain ⟨q4, d4, rfl, _⟩ := id hc.fields
  obtain ⟨q5, d5, rfl, _⟩ := id hc.methods
  unfold clsVal
  simp only
  have ka := alloc1 w (.cells #[.string nm, .string su, .bool fa, .slice q3 im.length d3, .slice q4 fs.length d4, .slice q5 ms.length d5] 26)
  have BX0 := blk_new w #[.string nm, .string su, .bool fa, .slice q3 im.length d3, .slice q4 fs.length d4, .slice q5 ms.length d5] 26
  have HR : Hid _ := hR
  have HB : Hid _ := hB
  have HC : Hid _ := hc
  clear hR hB hb hc
  go_enter Tryz.func4, Tryz.ntmps4
  go_wp2_with fail
  refine (Fil.begun_any _).mono ?_
  rintro e w1 ⟨rfl, e1⟩
  have k1 := ka.trans (e1.mono ka.size)
  have BX := blk_on BX0 e1
  clear BX0 e1 ka
  go_upto_region 4 with fail
  go_cut [0] (fun s0 wc => ∃ (v3 v4 v5 : Value) (c : ClsL), s0 = .slice b0 (min len0 60) cap0 ∧ wc.heap[w.heap.size]? = some (.cells #[.string c.name, .string c.super, .bool c.iface, v3, v4, v5] 26 (0, 0)) ∧ ClsV (msk pC wc) v3 v4 v5 c ∧ Below w.heap.size w wc)
  case first =>
    have kr : Below w1.heap.size w1 w1.drew := (Below.refl _ _).drew
    have kk := k1.trans (kr.mono k1.size)
    have BX := blk_on BX kr
    have x0 := blk_cell BX 0
    have x1 := blk_cell BX 1
    have x2 := blk_cell BX 2
    have x3 := blk_cell BX 3
    have x4 := blk_cell BX 4
    have x5 := blk_cell BX 5
    simp only [List.getElem?_toArray, List.getElem?_cons_zero, List.getElem?_cons_succ] at x0 x1 x2 x3 x4 x5
    refine wp_region_held_drew (S := fun _ => True) (by kernel_rfl) trivial (fun hHeld => ?_)
    generalize w1.drew = wX at *
    clear kr k1
    refine wpAnyH_take (i := 0) (oi := ⟨some 17, _, _, _, _, _⟩) (v := ?_) rfl (by kernel_rfl) (by kernel_rfl) (by kernel_rfl) (fun _ _ _ h => h) (Or.inl ⟨by kernel_rfl, fun Wx hSw => ?_⟩) (by assumption) ?_
    rotate_left
    · ((try dsimp only at hSw); go_simp; try with_reducible rfl)
    simp only [Act.put, List.setIfInBounds_toArray, List.set_cons_zero, List.set_cons_succ]
    refine wpAnyH_ready (rs := [1, 2]) (by kernel_rfl) (by simp) ?_
    refine AllReadyH.cons (o := ⟨some 18, _, _, _, _, _⟩) rfl (fun K hK => ?_) ?_
    · go_simp
      go_wp2_with (go_at_call 15; refine (short_any b0 len0 cap0 xs _ 60 60 rfl (by decide) (HR.out.later kk)).mono ?_; rintro e w' ⟨rfl, rfl⟩)
      refine hK.out _ _ trivial (fun hHeld => ?_)
      clear hK K
      refine wpAnyH_ready (rs := [2]) (by kernel_rfl) (by simp) ?_
      refine AllReadyH.cons (o := ⟨some 19, _, _, _, _, _⟩) rfl (fun K hK => ?_) AllReadyH.nil
      go_simp
      refine hK.out _ _ trivial (fun hHeld => ?_)
      clear hK K
      refine wpAnyH_ready (rs := [3]) (by kernel_rfl) (by simp) ?_
      refine AllReadyH.cons (o := ⟨some 20, _, _, _, _, _⟩) rfl (fun K hK => ?_) AllReadyH.nil
      go_simp
      go_wp2_with (go_at_call 9; refine (cutc_any nm su fa im fs ms q3 q4 q5 d3 d4 d5 _ (HC.out.later kk)).mono ?_; rintro e wY ⟨u3, u4, u5, rfl, hVY, bY⟩; unfold clsVal; generalize cutC ⟨nm, su, fa, im, fs, ms⟩ = c at *; obtain ⟨e3, f3, rfl, _⟩ := id hVY.impl; obtain ⟨e4, f4, rfl, _⟩ := id hVY.fields; obtain ⟨e5, f5, rfl, _⟩ := id hVY.methods)
      have HVY : Hid _ := hVY
      have kk := kk.trans (bY.mono kk.size)
      have BX := blk_on BX bY
      clear hVY x0 x1 x2 x3 x4 x5 bY
      refine hK.out _ _ trivial (fun hHeld => ?_)
      clear hK K
      refine wpAnyH_take (i := 4) (oi := ⟨some 0, _, _, _, _, _⟩) (v := ?_) rfl (by kernel_rfl) (by kernel_rfl) (by kernel_rfl) (fun _ _ _ h => h) (Or.inl ⟨by kernel_rfl, fun Wx hSw => ?_⟩) (by assumption) ?_
      rotate_left
      · ((try dsimp only at hSw); go_simp; try with_reducible rfl)
      simp only [Act.put, List.setIfInBounds_toArray, List.set_cons_zero, List.set_cons_succ]
      refine wpAnyH_ready (rs := [5]) (by kernel_rfl) (by simp) ?_
      refine AllReadyH.cons (o := ⟨none, _, _, _, _, _⟩) rfl (fun K hK => ?_) AllReadyH.nil
      rw [if_pos (by kernel_rfl)]
      refine wp_store_mid _ _ _ rfl w.heap.size 0 #[.string c.name, .string c.super, .bool c.iface, .slice e3 c.impl.length f3, .slice e4 c.fields.length f4, .slice e5 c.methods.length f5] rfl rfl (there_blk BX (by simp)) info6 (by simp [Value.oneCell']) ?_
      have BZ : (wY.setCells w.heap.size 0 #[.string c.name, .string c.super, .bool c.iface, .slice e3 c.impl.length f3, .slice e4 c.fields.length f4, .slice e5 c.methods.length f5].toList).heap[w.heap.size]? = some (.cells #[.string c.name, .string c.super, .bool c.iface, .slice e3 c.impl.length f3, .slice e4 c.fields.length f4, .slice e5 c.methods.length f5] 26 (0, 0)) := blk_sets6 BX _ _ _ _ _ _
      have eZ : Ext (msk pC wY) _ := ext_sets (p := pC) (T := 26) (by decide) #[.string c.name, .string c.super, .bool c.iface, .slice e3 c.impl.length f3, .slice e4 c.fields.length f4, .slice e5 c.methods.length f5].toList 0 wY _ BX
      have kk := below_sets (Nat.le_refl w.heap.size) #[.string c.name, .string c.super, .bool c.iface, .slice e3 c.impl.length f3, .slice e4 c.fields.length f4, .slice e5 c.methods.length f5].toList 0 _ kk
      generalize wY.setCells w.heap.size 0 #[.string c.name, .string c.super, .bool c.iface, .slice e3 c.impl.length f3, .slice e4 c.fields.length f4, .slice e5 c.methods.length f5].toList = wZ at *
      refine hK.out _ _ trivial (fun hHeld => ?_)
      clear hK K
      clear BX
      refine wpAnyH_done (by kernel_rfl) ?_ _
      go_wp2_with fail
      go_meet
      exact ⟨_, _, _, c, rfl, BZ, Fil.ClsV.ext eZ HVY.out, kk⟩
    refine AllReadyH.cons (o := ⟨some 19, _, _, _, _, _⟩) rfl (fun K hK => ?_) AllReadyH.nil
    go_simp
    refine hK.out _ _ trivial (fun hHeld => ?_)
    clear hK K
    refine wpAnyH_ready (rs := [1]) (by kernel_rfl) (by simp) ?_
    refine AllReadyH.cons (o := ⟨some 18, _, _, _, _, _⟩) rfl (fun K hK => ?_) AllReadyH.nil
    go_simp
    go_wp2_with (go_at_call 15; refine (short_any b0 len0 cap0 xs _ 60 60 rfl (by decide) (HR.out.later kk)).mono ?_; rintro e w' ⟨rfl, rfl⟩)
    refine hK.out _ _ trivial (fun hHeld => ?_)
    clear hK K
    refine wpAnyH_ready (rs := [3]) (by kernel_rfl) (by simp) ?_
    refine AllReadyH.cons (o := ⟨some 20, _, _, _, _, _⟩) rfl (fun K hK => ?_) AllReadyH.nil
    go_simp
    go_wp2_with (go_at_call 9; refine (cutc_any nm su fa im fs ms q3 q4 q5 d3 d4 d5 _ (HC.out.later kk)).mono ?_; rintro e wY ⟨u3, u4, u5, rfl, hVY, bY⟩; unfold clsVal; generalize cutC ⟨nm, su, fa, im, fs, ms⟩ = c at *; obtain ⟨e3, f3, rfl, _⟩ := id hVY.impl; obtain ⟨e4, f4, rfl, _⟩ := id hVY.fields; obtain ⟨e5, f5, rfl, _⟩ := id hVY.methods)
    have HVY : Hid _ := hVY
    have kk := kk.trans (bY.mono kk.size)
    have BX := blk_on BX bY
    clear hVY x0 x1 x2 x3 x4 x5 bY
    refine hK.out _ _ trivial (fun hHeld => ?_)
    clear hK K
    refine wpAnyH_take (i := 4) (oi := ⟨some 0, _, _, _, _, _⟩) (v := ?_) rfl (by kernel_rfl) (by kernel_rfl) (by kernel_rfl) (fun _ _ _ h => h) (Or.inl ⟨by kernel_rfl, fun Wx hSw => ?_⟩) (by assumption) ?_
    rotate_left
    · ((try dsimp only at hSw); go_simp; try with_reducible rfl)
    simp only [Act.put, List.setIfInBounds_toArray, List.set_cons_zero, List.set_cons_succ]
    refine wpAnyH_ready (rs := [5]) (by kernel_rfl) (by simp) ?_
    refine AllReadyH.cons (o := ⟨none, _, _, _, _, _⟩) rfl (fun K hK => ?_) AllReadyH.nil
    rw [if_pos (by kernel_rfl)]
    refine wp_store_mid _ _ _ rfl w.heap.size 0 #[.string c.name, .string c.super, .bool c.iface, .slice e3 c.impl.length f3, .slice e4 c.fields.length f4, .slice e5 c.methods.length f5] rfl rfl (there_blk BX (by simp)) info6 (by simp [Value.oneCell']) ?_
    have BZ : (wY.setCells w.heap.size 0 #[.string c.name, .string c.super, .bool c.iface, .slice e3 c.impl.length f3, .slice e4 c.fields.length f4, .slice e5 c.methods.length f5].toList).heap[w.heap.size]? = some (.cells #[.string c.name, .string c.super, .bool c.iface, .slice e3 c.impl.length f3, .slice e4 c.fields.length f4, .slice e5 c.methods.length f5] 26 (0, 0)) := blk_sets6 BX _ _ _ _ _ _
    have eZ : Ext (msk pC wY) _ := ext_sets (p := pC) (T := 26) (by decide) #[.string c.name, .string c.super, .bool c.iface, .slice e3 c.impl.length f3, .slice e4 c.fields.length f4, .slice e5 c.methods.length f5].toList 0 wY _ BX
    have kk := below_sets (Nat.le_refl w.heap.size) #[.string c.name, .string c.super, .bool c.iface, .slice e3 c.impl.length f3, .slice e4 c.fields.length f4, .slice e5 c.methods.length f5].toList 0 _ kk
    generalize wY.setCells w.heap.size 0 #[.string c.name, .string c.super, .bool c.iface, .slice e3 c.impl.length f3, .slice e4 c.fields.length f4, .slice e5 c.methods.length f5].toList = wZ at *
    refine hK.out _ _ trivial (fun hHeld => ?_)
    clear hK K
    clear BX
    refine wpAnyH_done (by kernel_rfl) ?_ _
    go_wp2_with fail
    go_meet
    exact ⟨_, _, _, c, rfl, BZ, Fil.ClsV.ext eZ HVY.out, kk⟩
  case rest =>
  obtain ⟨v3, v4, v5, c, rfl, BX2, hV, kC⟩ := hcut
  have HR2 : Hid _ := (HR.out.later kC).take (min len0 60) (Nat.min_le_left _ _)
  have HV : Hid _ := Fil.ClsV.ext (ext_id pC wc) hV
  have HB2 : Hid _ := bytes_take HB.out (min len0 60)
  obtain ⟨e3, f3, rfl, _⟩ := id hV.impl
  obtain ⟨e4, f4, rfl, _⟩ := id hV.fields
  obtain ⟨e5, f5, rfl, _⟩ := id hV.methods
  have hm60 : min len0 60 ≤ 60 := Nat.min_le_right _ _
  clear BX hV HR HB HC k1
  generalize xs.take (min len0 60) = ys at *
  generalize min len0 60 = m at *
  go_wp2_with fail
  refine (tells_any b0 m cap0 ys _ HR2.out HB2.out).mono ?_
  rintro e w5 ⟨rfl, b5⟩
  have hcv := headW_conv w5
  obtain ⟨kf, hx⟩ := headW_facts w5
  generalize headW w5 = Fh at *
  have k5 := b5.trans (kf.mono b5.size)
  obtain ⟨a6, c6, w6, hrun, hH6, b6⟩ := cat_run Fh w5.heap.size m cap0 b0 ys hx (HR2.out.later k5) (by omega)
  have k6 := k5.trans (b6.mono k5.size)
  have H6 : Hid _ := hH6
  have HRUN : Hid _ := hrun
  clear hH6 hx kf hrun
  go_wp2_with (refine wpList_cat (.tmp 26) (.tmp 27) 29 rfl (by kernel_rfl) _ _ _ _ rfl rfl HRUN.out ?_)
  refine (tells_any a6 (4 + m) c6 (magic ++ ys) _ H6.out (bytes_append bytes_magic HB2.out)).mono ?_
  rintro e w7 ⟨rfl, b7⟩
  have k7 := k6.trans (b7.mono k6.size)
  have BX7 := blk_on BX2 k7
  have y0 := blk_cell BX7 0
  have y1 := blk_cell BX7 1
  have y2 := blk_cell BX7 2
  have y3 := blk_cell BX7 3
  have y4 := blk_cell BX7 4
  have y5 := blk_cell BX7 5
  simp only [List.getElem?_toArray, List.getElem?_cons_zero, List.getElem?_cons_succ] at y0 y1 y2 y3 y4 y5
  have HE := encode_any _ _ _ _ w7 (HV.out.later k7)
  unfold clsVal at HE
  clear hcv HRUN b5 b6 b7 k5 k6 BX7
  go_wp2_with fail
  refine HE.mono ?_
  rintro e w8 ⟨vE, rfl, ownE, hnil, b8⟩
  clear HE y0 y1 y2 y3 y4 y5
  have k8 := k7.trans (b8.mono k7.size)
  have kW := kC.trans (k8.mono kC.size)
  have HEB : Hid _ := encodeL_bytes c
  by_cases hz : encodeL c = []
  case pos =>
    obtain rfl := hnil hz
    go_wp2_with fail
    go_ret
    exact ⟨rfl, kW⟩
  case neg =>
  have hpos : 0 < (encodeL c).length := by cases h : encodeL c with | nil => exact absurd h hz | cons _ _ => simp
  have hle : (encodeL c).length ≤ 6000 := by unfold encodeL; by_cases h : mayP c = true ∧ (bytesL c).length ≤ 6000; (rw [if_pos h]; exact h.2); (rw [if_neg h]; simp)
  generalize encodeL c = es at *
  obtain ⟨g, cap, rfl, hg1, hg2⟩ := ownE.form hpos
  have hP := Has.own ownE
  have hP8 : Hid _ := hP
  have hcap := hP.cap
  have hcmx := hP.max
  unfold maxLen at hcmx
  have hfz : Hid (∀ i, i < es.length → w8.frozen? ⟨g, i, none⟩ = false) := fun i hi => own_free ownE i
  obtain ⟨i0, hi, hz0, hz1, hz2⟩ := info_parts info8
  have hl0 : ((es.length : Int) == 0) = false := by simp; omega
  clear hnil hz hP
  by_cases hat : at' < 0
  case pos =>
    have d1 : decide (at' < 0) = true := by simpa using hat
    go_wp2_with fail
    go_ret
    exact ⟨rfl, kW⟩
  case neg =>
  have d1 : decide (at' < 0) = false := by simpa using hat
  obtain ⟨k, hk⟩ : ∃ k : Nat, at' % (es.length : Int) = k := ⟨(at' % (es.length : Int)).toNat, (Int.toNat_of_nonneg (Int.emod_nonneg _ (by omega))).symm⟩
  have hkl : k < es.length := by have := Int.emod_lt_of_pos at' (show (0 : Int) < (es.length : Int) by omega); omega
  have hat0 : 0 ≤ at' := by omega
  have hb1 : (k : Int) < (es.length : Int) := by omega
  have hb2 : (k : Int) ≤ (es.length : Int) := by omega
  have hb3 : (k : Int) ≤ (cap : Int) := by omega
  cases q0 : (bits BinOp.and IntKind.i64 how 3 == 0)
  case true =>
    obtain ⟨b9, off9, e9, _, hcs⟩ := hP8.out.cells hpos
    simp only [Option.some.injEq, Addr.mk.injEq, and_true] at e9
    obtain ⟨rfl, rfl⟩ := e9
    have z := hcs k hkl
    rw [Nat.zero_add] at z
    have zf := hfz.out k hkl
    have hv := has_set hP8.out hkl (bits BinOp.xor IntKind.u8 (es.getD k 0) x)
    have hvb : Hid _ := bytes_set HEB.out k (bits BinOp.xor IntKind.u8 (es.getD k 0) x) (xor_byte _ _)
    have HN : Hid _ := hv
    have hgw : w.heap.size ≤ g := Nat.le_trans kC.size (Nat.le_trans k7.size hg1)
    have kS := kW.setCell (p := ⟨g, k, none⟩) hgw (.int .u8 (bits BinOp.xor IntKind.u8 (es.getD k 0) x))
    generalize es.getD k 0 = y at *
    clear hcs hv
    go_wp2_with fail
    refine (tells_any _ _ _ _ _ HN.out hvb.out).mono ?_
    rintro e w9 ⟨rfl, b9⟩
    go_wp2_with fail
    go_ret
    exact ⟨rfl, kS.trans (b9.mono kS.size)⟩
  case false =>
  cases q1 : (bits BinOp.and IntKind.i64 how 3 == 1)
  case true =>
    have hck : ¬ cap = k := by omega
    go_upto_region 16 with fail
    try simp only [hk]
    have kk : Below w8.heap.size w8 w8.drew := (Below.refl _ _).drew
    refine wp_region_held_drew (S := fun _ => True) (by kernel_rfl) trivial (fun hHeld => ?_)
    generalize w8.drew = wX at *
    have hB := kk.size
    refine wpAnyH_take (i := 0) (oi := ⟨some 61, _, _, _, _, _⟩) (v := ?_) rfl (by kernel_rfl) (by kernel_rfl) (by kernel_rfl) (fun _ _ _ h => h) (Or.inl ⟨by kernel_rfl, fun Wx hSw => ?_⟩) (by assumption) ?_
    rotate_left
    · ((try dsimp only at hSw); go_simp; try with_reducible rfl)
    simp only [Act.put, List.setIfInBounds_toArray, List.set_cons_zero, List.set_cons_succ]
    refine wpAnyH_take (i := 1) (oi := ⟨some 62, _, _, _, _, _⟩) (v := ?_) rfl (by kernel_rfl) (by kernel_rfl) (by kernel_rfl) (fun _ _ _ h => h) (Or.inl ⟨by kernel_rfl, fun Wx hSw => ?_⟩) (by assumption) ?_
    rotate_left
    · ((try dsimp only at hSw); go_simp; try with_reducible rfl)
    simp only [Act.put, List.setIfInBounds_toArray, List.set_cons_zero, List.set_cons_succ]
    refine wpAnyH_take (i := 2) (oi := ⟨some 63, _, _, _, _, _⟩) (v := ?_) rfl (by kernel_rfl) (by kernel_rfl) (by kernel_rfl) (fun _ _ _ h => h) (Or.inl ⟨by kernel_rfl, fun Wx hSw => ?_⟩) (by assumption) ?_
    rotate_left
    · ((try dsimp only at hSw); go_simp; try with_reducible rfl)
    simp only [Act.put, List.setIfInBounds_toArray, List.set_cons_zero, List.set_cons_succ]
    refine wpAnyH_take (i := 4) (oi := ⟨some 65, _, _, _, _, _⟩) (v := ?_) rfl (by kernel_rfl) (by kernel_rfl) (by kernel_rfl) (fun _ _ _ h => h) (Or.inl ⟨by kernel_rfl, fun Wx hSw => ?_⟩) (by assumption) ?_
    rotate_left
    · ((try dsimp only at hSw); go_simp; try with_reducible rfl)
    simp only [Act.put, List.setIfInBounds_toArray, List.set_cons_zero, List.set_cons_succ]
    refine wpAnyH_take (i := 7) (oi := ⟨some 68, _, _, _, _, _⟩) (v := ?_) rfl (by kernel_rfl) (by kernel_rfl) (by kernel_rfl) (fun _ _ _ h => h) (Or.inl ⟨by kernel_rfl, fun Wx hSw => ?_⟩) (by assumption) ?_
    rotate_left
    · ((try dsimp only at hSw); go_simp; try with_reducible rfl)
    simp only [Act.put, List.setIfInBounds_toArray, List.set_cons_zero, List.set_cons_succ]
    refine wpAnyH_take (i := 8) (oi := ⟨some 69, _, _, _, _, _⟩) (v := ?_) rfl (by kernel_rfl) (by kernel_rfl) (by kernel_rfl) (fun _ _ _ h => h) (Or.inl ⟨by kernel_rfl, fun Wx hSw => ?_⟩) (by assumption) ?_
    rotate_left
    · ((try dsimp only at hSw); go_simp; try with_reducible rfl)
    simp only [Act.put, List.setIfInBounds_toArray, List.set_cons_zero, List.set_cons_succ]
    refine wpAnyH_take (i := 9) (oi := ⟨some 70, _, _, _, _, _⟩) (v := ?_) rfl (by kernel_rfl) (by kernel_rfl) (by kernel_rfl) (fun _ _ _ h => h) (Or.inl ⟨by kernel_rfl, fun Wx hSw => ?_⟩) (by assumption) ?_
    rotate_left
    · ((try dsimp only at hSw); go_simp; try with_reducible rfl)
    simp only [Act.put, List.setIfInBounds_toArray, List.set_cons_zero, List.set_cons_succ]
    refine wpAnyH_ready (rs := [3, 5]) (by kernel_rfl) (by simp) ?_
    refine AllReadyH.cons (o := ⟨some 64, _, _, _, _, _⟩) rfl (fun K hK => ?_) ?_
    · refine step_has rfl (.const (.slice none 0 0)) (.tmp 63) 29 rfl w8.heap.size i0 Tryz.underlying29 hi hz0 hz1 hz2 (.slice none 0 0) 0 [] rfl (World.ownsRow_nil _ _ _ _) (some ⟨g, 0, none⟩) k cap (es.take k) rfl ((hP8.out.later kk).take k (by omega)) (by omega) hB ?_
      intro a3 c3 w3 own3 hH3 g3
      simp only [Nat.zero_add, List.nil_append] at own3 ⊢
      have b3 := (Below.refl _ _).grown g3 (Nat.le_refl _) (fun q e => by cases e)
      have kk := kk.trans (b3.mono kk.size)
      clear hH3 g3 b3
      refine hK.out _ _ trivial (fun hHeld => ?_)
      clear hK K
      have hB := kk.size
      refine wpAnyH_ready (rs := [5]) (by kernel_rfl) (by simp) ?_
      refine AllReadyH.cons (o := ⟨some 66, _, _, _, _, _⟩) rfl (fun K hK => ?_) AllReadyH.nil
      go_simp
      have b5 := alloc1 w3 (.cells #[.int .u8 x] 5)
      have hL := Has.lit w3 [x] (show 1 ≤ maxLen by decide)
      have kk := kk.trans (b5.mono kk.size)
      have own3 := own_later own3 b5
      refine hK.out _ _ trivial (fun hHeld => ?_)
      clear hK K
      have hL : Has (w3.alloc (.cells #[.int .u8 x] 5)) (some ⟨w3.heap.size, 0, none⟩) 1 1 [x] := hL
      generalize w3.alloc (.cells #[.int .u8 x] 5) = w5x at *
      generalize w3.heap.size = gL at *
      clear b5
      have hB := kk.size
      refine wpAnyH_ready (rs := [6]) (by kernel_rfl) (by simp) ?_
      refine AllReadyH.cons (o := ⟨some 67, _, _, _, _, _⟩) rfl (fun K hK => ?_) AllReadyH.nil
      have hlow := fun g e => (own3.lt g e).1
      refine step_has rfl (.tmp 64) (.tmp 66) 29 rfl w8.heap.size i0 Tryz.underlying29 hi hz0 hz1 hz2 (.slice a3 k c3) k (es.take k) rfl own3 (some ⟨gL, 0, none⟩) 1 1 [x] rfl hL (by omega) hB ?_
      intro a6 c6 w6 own6 hH6 g6
      have kk := kk.grown g6 hB hlow
      clear hH6 hlow g6
      refine hK.out _ _ trivial (fun hHeld => ?_)
      clear hK K
      have hB := kk.size
      refine wpAnyH_ready (rs := [10]) (by kernel_rfl) (by simp) ?_
      refine AllReadyH.cons (o := ⟨some 71, _, _, _, _, _⟩) rfl (fun K hK => ?_) AllReadyH.nil
      have hlow := fun g e => (own6.lt g e).1
      refine step_has rfl (.tmp 67) (.tmp 70) 29 rfl w8.heap.size i0 Tryz.underlying29 hi hz0 hz1 hz2 (.slice a6 (k + 1) c6) (k + 1) (es.take k ++ [x]) rfl own6 (some ⟨g, k, none⟩) (es.length - k) (cap - k) (es.drop k) rfl (by have := Has.drop (hP8.out.later kk) k (by omega); simpa using this) (by omega) hB ?_
      intro a8 c8 w9x own8 hH8 g8
      have kk := kk.grown g8 hB hlow
      have H8 : Hid _ := hH8
      clear hH8 hlow g8 own8
      refine hK.out _ _ trivial (fun hHeld => ?_)
      clear hK K
      refine wpAnyH_take (i := 11) (oi := ⟨some 12, _, _, _, _, _⟩) (v := ?_) rfl (by kernel_rfl) (by kernel_rfl) (by kernel_rfl) (fun _ _ _ h => h) (Or.inl ⟨by kernel_rfl, fun Wx hSw => ?_⟩) (by assumption) ?_
      rotate_left
      · ((try dsimp only at hSw); go_simp; try with_reducible rfl)
      simp only [Act.put, List.setIfInBounds_toArray, List.set_cons_zero, List.set_cons_succ]
      refine wpAnyH_done (by kernel_rfl) ?_ _
      have kf := kW.trans (kk.mono kW.size)
      go_wp2_with fail
      all_goals
        refine (tells_any _ _ _ _ _ H8.out (bytes_append (bytes_append (bytes_take HEB.out k) (byte_one wx)) (bytes_drop HEB.out k))).mono ?_
        rintro e w9 ⟨rfl, b9⟩
        go_wp2_with fail
        go_ret
        exact ⟨rfl, kf.trans (b9.mono kf.size)⟩
    refine AllReadyH.cons (o := ⟨some 66, _, _, _, _, _⟩) rfl (fun K hK => ?_) AllReadyH.nil
    go_simp
    have b5 := alloc1 wX (.cells #[.int .u8 x] 5)
    have hL := Has.lit wX [x] (show 1 ≤ maxLen by decide)
    have kk := kk.trans (b5.mono kk.size)
    refine hK.out _ _ trivial (fun hHeld => ?_)
    clear hK K
    have hL : Has (wX.alloc (.cells #[.int .u8 x] 5)) (some ⟨wX.heap.size, 0, none⟩) 1 1 [x] := hL
    generalize wX.alloc (.cells #[.int .u8 x] 5) = w5x at *
    generalize wX.heap.size = gL at *
    clear b5
    have hB := kk.size
    refine wpAnyH_ready (rs := [3]) (by kernel_rfl) (by simp) ?_
    refine AllReadyH.cons (o := ⟨some 64, _, _, _, _, _⟩) rfl (fun K hK => ?_) AllReadyH.nil
    refine step_has rfl (.const (.slice none 0 0)) (.tmp 63) 29 rfl w8.heap.size i0 Tryz.underlying29 hi hz0 hz1 hz2 (.slice none 0 0) 0 [] rfl (World.ownsRow_nil _ _ _ _) (some ⟨g, 0, none⟩) k cap (es.take k) rfl ((hP8.out.later kk).take k (by omega)) (by omega) hB ?_
    intro a3 c3 w3 own3 hH3 g3
    simp only [Nat.zero_add, List.nil_append] at own3 ⊢
    have b3 := (Below.refl _ _).grown g3 (Nat.le_refl _) (fun q e => by cases e)
    have kk := kk.trans (b3.mono kk.size)
    have hL := hL.later b3
    clear hH3 g3 b3
    refine hK.out _ _ trivial (fun hHeld => ?_)
    clear hK K
    have hB := kk.size
    refine wpAnyH_ready (rs := [6]) (by kernel_rfl) (by simp) ?_
    refine AllReadyH.cons (o := ⟨some 67, _, _, _, _, _⟩) rfl (fun K hK => ?_) AllReadyH.nil
    have hlow := fun g e => (own3.lt g e).1
    refine step_has rfl (.tmp 64) (.tmp 66) 29 rfl w8.heap.size i0 Tryz.underlying29 hi hz0 hz1 hz2 (.slice a3 k c3) k (es.take k) rfl own3 (some ⟨gL, 0, none⟩) 1 1 [x] rfl hL (by omega) hB ?_
    intro a6 c6 w6 own6 hH6 g6
    have kk := kk.grown g6 hB hlow
    clear hH6 hlow g6
    refine hK.out _ _ trivial (fun hHeld => ?_)
    clear hK K
    have hB := kk.size
    refine wpAnyH_ready (rs := [10]) (by kernel_rfl) (by simp) ?_
    refine AllReadyH.cons (o := ⟨some 71, _, _, _, _, _⟩) rfl (fun K hK => ?_) AllReadyH.nil
    have hlow := fun g e => (own6.lt g e).1
    refine step_has rfl (.tmp 67) (.tmp 70) 29 rfl w8.heap.size i0 Tryz.underlying29 hi hz0 hz1 hz2 (.slice a6 (k + 1) c6) (k + 1) (es.take k ++ [x]) rfl own6 (some ⟨g, k, none⟩) (es.length - k) (cap - k) (es.drop k) rfl (by have := Has.drop (hP8.out.later kk) k (by omega); simpa using this) (by omega) hB ?_
    intro a8 c8 w9x own8 hH8 g8
    have kk := kk.grown g8 hB hlow
    have H8 : Hid _ := hH8
    clear hH8 hlow g8 own8
    refine hK.out _ _ trivial (fun hHeld => ?_)
    clear hK K
    refine wpAnyH_take (i := 11) (oi := ⟨some 12, _, _, _, _, _⟩) (v := ?_) rfl (by kernel_rfl) (by kernel_rfl) (by kernel_rfl) (fun _ _ _ h => h) (Or.inl ⟨by kernel_rfl, fun Wx hSw => ?_⟩) (by assumption) ?_
    rotate_left
    · ((try dsimp only at hSw); go_simp; try with_reducible rfl)
    simp only [Act.put, List.setIfInBounds_toArray, List.set_cons_zero, List.set_cons_succ]
    refine wpAnyH_done (by kernel_rfl) ?_ _
    have kf := kW.trans (kk.mono kW.size)
    go_wp2_with fail
    all_goals
      refine (tells_any _ _ _ _ _ H8.out (bytes_append (bytes_append (bytes_take HEB.out k) (byte_one wx)) (bytes_drop HEB.out k))).mono ?_
      rintro e w9 ⟨rfl, b9⟩
      go_wp2_with fail
      go_ret
      exact ⟨rfl, kf.trans (b9.mono kf.size)⟩
  case false =>
  cases q2 : (bits BinOp.and IntKind.i64 how 3 == 2)
  case true =>
    have h64 : IntKind.i64.wrap ((k : Int) + 1) = (k : Int) + 1 := IntWalk.i64_in _ (by omega)
    have hb4 : (k : Int) + 1 ≤ (es.length : Int) := by omega
    have hb5 : (0 : Int) ≤ (k : Int) + 1 := by omega
    have hb6 : (k : Int) + 1 ≤ (cap : Int) := by omega
    have htn : ((k : Int) + 1).toNat = k + 1 := by omega
    go_upto_region 18 with fail
    try simp only [hk]
    have kk : Below w8.heap.size w8 w8.drew := (Below.refl _ _).drew
    refine wp_region_held_drew (S := fun _ => True) (by kernel_rfl) trivial (fun hHeld => ?_)
    generalize w8.drew = wX at *
    have hB := kk.size
    refine wpAnyH_take (i := 0) (oi := ⟨some 74, _, _, _, _, _⟩) (v := ?_) rfl (by kernel_rfl) (by kernel_rfl) (by kernel_rfl) (fun _ _ _ h => h) (Or.inl ⟨by kernel_rfl, fun Wx hSw => ?_⟩) (by assumption) ?_
    rotate_left
    · ((try dsimp only at hSw); go_simp; try with_reducible rfl)
    simp only [Act.put, List.setIfInBounds_toArray, List.set_cons_zero, List.set_cons_succ]
    refine wpAnyH_take (i := 1) (oi := ⟨some 75, _, _, _, _, _⟩) (v := ?_) rfl (by kernel_rfl) (by kernel_rfl) (by kernel_rfl) (fun _ _ _ h => h) (Or.inl ⟨by kernel_rfl, fun Wx hSw => ?_⟩) (by assumption) ?_
    rotate_left
    · ((try dsimp only at hSw); go_simp; try with_reducible rfl)
    simp only [Act.put, List.setIfInBounds_toArray, List.set_cons_zero, List.set_cons_succ]
    refine wpAnyH_take (i := 2) (oi := ⟨some 76, _, _, _, _, _⟩) (v := ?_) rfl (by kernel_rfl) (by kernel_rfl) (by kernel_rfl) (fun _ _ _ h => h) (Or.inl ⟨by kernel_rfl, fun Wx hSw => ?_⟩) (by assumption) ?_
    rotate_left
    · ((try dsimp only at hSw); go_simp; try with_reducible rfl)
    simp only [Act.put, List.setIfInBounds_toArray, List.set_cons_zero, List.set_cons_succ]
    refine wpAnyH_take (i := 4) (oi := ⟨some 78, _, _, _, _, _⟩) (v := ?_) rfl (by kernel_rfl) (by kernel_rfl) (by kernel_rfl) (fun _ _ _ h => h) (Or.inl ⟨by kernel_rfl, fun Wx hSw => ?_⟩) (by assumption) ?_
    rotate_left
    · ((try dsimp only at hSw); go_simp; try with_reducible rfl)
    simp only [Act.put, List.setIfInBounds_toArray, List.set_cons_zero, List.set_cons_succ]
    refine wpAnyH_take (i := 5) (oi := ⟨some 79, _, _, _, _, _⟩) (v := ?_) rfl (by kernel_rfl) (by kernel_rfl) (by kernel_rfl) (fun _ _ _ h => h) (Or.inl ⟨by kernel_rfl, fun Wx hSw => ?_⟩) (by assumption) ?_
    rotate_left
    · ((try dsimp only at hSw); go_simp; try with_reducible rfl)
    simp only [Act.put, List.setIfInBounds_toArray, List.set_cons_zero, List.set_cons_succ]
    refine wpAnyH_take (i := 6) (oi := ⟨some 80, _, _, _, _, _⟩) (v := ?_) rfl (by kernel_rfl) (by kernel_rfl) (by kernel_rfl) (fun _ _ _ h => h) (Or.inl ⟨by kernel_rfl, fun Wx hSw => ?_⟩) (by assumption) ?_
    rotate_left
    · ((try dsimp only at hSw); go_simp; try with_reducible rfl)
    simp only [Act.put, List.setIfInBounds_toArray, List.set_cons_zero, List.set_cons_succ]
    refine wpAnyH_take (i := 7) (oi := ⟨some 81, _, _, _, _, _⟩) (v := ?_) rfl (by kernel_rfl) (by kernel_rfl) (by kernel_rfl) (fun _ _ _ h => h) (Or.inl ⟨by kernel_rfl, fun Wx hSw => ?_⟩) (by assumption) ?_
    rotate_left
    · ((try dsimp only at hSw); go_simp; try with_reducible rfl)
    simp only [Act.put, List.setIfInBounds_toArray, List.set_cons_zero, List.set_cons_succ]
    refine wpAnyH_ready (rs := [3]) (by kernel_rfl) (by simp) ?_
    refine AllReadyH.cons (o := ⟨some 77, _, _, _, _, _⟩) rfl (fun K hK => ?_) AllReadyH.nil
    refine step_has rfl (.const (.slice none 0 0)) (.tmp 76) 29 rfl w8.heap.size i0 Tryz.underlying29 hi hz0 hz1 hz2 (.slice none 0 0) 0 [] rfl (World.ownsRow_nil _ _ _ _) (some ⟨g, 0, none⟩) k cap (es.take k) rfl ((hP8.out.later kk).take k (by omega)) (by omega) hB ?_
    intro a3 c3 w3 own3 hH3 g3
    simp only [Nat.zero_add, List.nil_append] at own3 ⊢
    have b3 := (Below.refl _ _).grown g3 (Nat.le_refl _) (fun q e => by cases e)
    have kk := kk.trans (b3.mono kk.size)
    clear hH3 g3 b3
    refine hK.out _ _ trivial (fun hHeld => ?_)
    clear hK K
    have hB := kk.size
    refine wpAnyH_ready (rs := [8]) (by kernel_rfl) (by simp) ?_
    refine AllReadyH.cons (o := ⟨some 82, _, _, _, _, _⟩) rfl (fun K hK => ?_) AllReadyH.nil
    have hlow := fun g e => (own3.lt g e).1
    refine step_has rfl (.tmp 77) (.tmp 81) 29 rfl w8.heap.size i0 Tryz.underlying29 hi hz0 hz1 hz2 (.slice a3 (k) c3) (k) (es.take k) rfl own3 (if cap = k + 1 then some ⟨g, 0, none⟩ else some ⟨g, k + 1, none⟩) (es.length - (k + 1)) (cap - (k + 1)) (es.drop (k + 1)) rfl (has_drop_if (hP8.out.later kk) (k + 1) (by omega)) (by omega) hB ?_
    intro a8 c8 w9x own8 hH8 g8
    have kk := kk.grown g8 hB hlow
    have H8 : Hid _ := hH8
    clear hH8 hlow g8 own8
    refine hK.out _ _ trivial (fun hHeld => ?_)
    clear hK K
    refine wpAnyH_take (i := 9) (oi := ⟨some 12, _, _, _, _, _⟩) (v := ?_) rfl (by kernel_rfl) (by kernel_rfl) (by kernel_rfl) (fun _ _ _ h => h) (Or.inl ⟨by kernel_rfl, fun Wx hSw => ?_⟩) (by assumption) ?_
    rotate_left
    · ((try dsimp only at hSw); go_simp; try with_reducible rfl)
    simp only [Act.put, List.setIfInBounds_toArray, List.set_cons_zero, List.set_cons_succ]
    refine wpAnyH_done (by kernel_rfl) ?_ _
    have kf := kW.trans (kk.mono kW.size)
    go_wp2_with fail
    all_goals
      refine (tells_any _ _ _ _ _ H8.out (bytes_append (bytes_take HEB.out k) (bytes_drop HEB.out (k + 1)))).mono ?_
      rintro e w9 ⟨rfl, b9⟩
      go_wp2_with fail
      go_ret
      exact ⟨rfl, kf.trans (b9.mono kf.size)⟩
  case false =>
    have HT : Hid _ := hP8.out.take k (by omega)
    go_wp2_with fail
    refine (tells_any _ _ _ _ _ HT.out (bytes_take HEB.out k)).mono ?_
    rintro e w9 ⟨rfl, b9⟩
    go_wp2_with fail
    go_ret
    exact ⟨rfl, kW.trans (b9.mono kW.size)⟩
/-! ### The row -/
theorem own : ownKnob Tryz.prog.godebug = none := by kernel_rfl
theorem laidOut : laidOutB Tryz.prog = true := by kernel_rfl
set_option maxRecDepth 100000 in
theorem lifted (os : Os) (started : os.Started) (H : Type) (enc : TypeId × Value → H) :
    ReturnsInHanded {} Tryz.checked os 4 .any (Rows.fileAnySpec.pre6 enc Tryz.prog Tryz.f4 Rows.fileAnyRow.domain false) (Rows.fileAnySpec.post enc Tryz.prog Tryz.f4 false true false false) := by
  refine returnsInHanded_of_change (C := Tryz.checked) own started (by kernel_rfl) Tryz.func4
    (ChangeSpec.witness6 (enc := enc) (C := Tryz.checked) false ⟨#[], #[.slice none 0 0, .agg #[.string ByteArray.empty, .string ByteArray.empty, .bool false, .slice none 0 0, .slice none 0 0, .slice none 0 0], .int .i64 0, .int .u8 0, .int .i64 0], []⟩ 8 (by kernel_rfl) (by kernel_rfl) (by kernel_rfl) (by kernel_rfl)) ?_
  intro W base args ds gs before hval0 hW hcnd _
  have hval : ∀ (j : Nat) t v, Tryz.f4.params[j]? = some t → args[j]? = some v → Value.okWide Tryz.prog W .any base t v := hval0
  have hW' := hW
  obtain ⟨p, q, hA0, hV, rfl, hfz, hnd⟩ := hW
  have hA : DataW.TrodAll enc Tryz.prog W 0 (fun _ => true) true Tryz.f4.params.toList args.toList ds p := hA0
  rw [Tryz.params4] at hA hval
  obtain ⟨v0, vs0, d0, ds0, p0, q0, hargs, rfl, rfl, h0, r0⟩ := trodAll_cons hA
  obtain ⟨v1, vs1, d1, ds1, p1, q1, rfl, rfl, rfl, h1, r1⟩ := trodAll_cons r0
  obtain ⟨v2, vs2, d2, ds2, p2, q2, rfl, rfl, rfl, h2, r2⟩ := trodAll_cons r1
  obtain ⟨v3, vs3, d3, ds3, p3, q3, rfl, rfl, rfl, h3, r3⟩ := trodAll_cons r2
  obtain ⟨v4, vs4, d4, ds4, p4, q4, rfl, rfl, rfl, h4, r4⟩ := trodAll_cons r3
  obtain ⟨rfl, rfl, rfl⟩ := trodAll_nil r4
  obtain rfl : args = #[v0, v1, v2, v3, v4] := by cases args; simp_all
  obtain ⟨rfl, rfl⟩ := trodVars_none hV
  obtain ⟨a0, len0, cap0, rfl⟩ := okWide_slice Tryz.underlying29 (hval 0 29 v0 rfl rfl)
  have k0 := h0
  have lt0 : ∀ x ∈ p0, x.block < W.heap.size := by obtain ⟨m, hm⟩ := k0; exact DataW.trod_lt m _ _ _ hm
  obtain ⟨z0, w0⟩ : ∃ zs, IsRow .u8 W a0 len0 cap0 zs := by
    obtain ⟨fuel, hf⟩ := h0
    rcases open_ints Tryz.underlying29 Tryz.underlying5 (by kernel_rfl) hf with ⟨hcs, _⟩ | ⟨x, l, c, zs, hcs, _, hl, hm, hz, _, hcell, hwz⟩
    · simp [Value.cells] at hcs
      obtain ⟨rfl, rfl, rfl⟩ := hcs
      exact ⟨[], .inl ⟨rfl, rfl, rfl, rfl⟩⟩
    · simp [Value.cells] at hcs
      obtain ⟨rfl, rfl, rfl⟩ := hcs
      exact ⟨zs, .inr ⟨_, rfl, hl, hm, by simpa using hz, hcell, hwz⟩⟩
  have k1 := h1
  have lt1 : ∀ x ∈ p1, x.block < W.heap.size := by obtain ⟨m, hm⟩ := k1; exact DataW.trod_lt m _ _ _ hm
  obtain ⟨x1, y1, z1, c1, rfl, w1⟩ := Fil.open_cls (hval 1 26 v1 rfl rfl) h1
  obtain ⟨a2, rfl, rfl, rfl, w2⟩ := open_int Tryz.underlying3 (hval 2 3 v2 rfl rfl) h2
  obtain ⟨a3, rfl, rfl, rfl, w3⟩ := open_int Tryz.underlying5 (hval 3 5 v3 rfl rfl) h3
  obtain ⟨a4, rfl, rfl, rfl, w4⟩ := open_int Tryz.underlying3 (hval 4 3 v4 rfl rfl) h4
  clear hA0 hval0
  refine (walk a0 len0 cap0 z0 x1 y1 z1 c1 a2 a3 a4 W w0 w1 w2 w3 w4).mono fun e W' ⟨he, bel⟩ => ?_
  subst he
  exact ⟨_, rfl, _, _, _, [], _, [], hW', trodAll_mk1 (shut_bool Tryz.underlying4 _), (trodAll_cons_mk (Below.trod laidOut (by kernel_rfl) (of_decide_eq_true (by kernel_rfl)) k0 bel lt0) (trodAll_cons_mk (Below.trod laidOut (by kernel_rfl) (of_decide_eq_true (by kernel_rfl)) k1 bel lt1) (trodAll_cons_mk (shut_int Tryz.underlying3 w2) (trodAll_cons_mk (shut_int Tryz.underlying5 w3) (trodAll_cons_mk (shut_int Tryz.underlying3 w4) trodAll_mk0))))), rfl, bel.frame _, fun h => by cases h⟩

theorem over : Rows.fileAnyRow.holds Tryz.pinned (OpenSpec.ofChange Rows.fileAnySpec) :=
  OpenClaim.holds_of_wide 4 Tryz.f4 rfl rfl rfl rfl rfl rfl rfl ⟨rfl, rfl, rfl, rfl, rfl⟩ rfl rfl rfl rfl rfl (by kernel_rfl) Tryz.func4 (by kernel_rfl)
    (of_decide_eq_true (by kernel_rfl)) (by unfold Func.isWrapper; first | (rw [if_pos (by decide +kernel)]; kernel_rfl) | (rw [if_neg (by decide +kernel)]; exact ⟨rfl, rfl⟩))
    (fun os started H enc _ => lifted os started H enc)

end FileAny

theorem fileAny_holds : Rows.FileAnySaid := FileAny.over
#print axioms fileAny_holds
end Go.Proofs.YtjblmgdjaaeedaaGreat

