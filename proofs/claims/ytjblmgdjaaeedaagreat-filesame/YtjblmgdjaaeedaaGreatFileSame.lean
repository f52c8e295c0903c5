/- FileSame: a class that is read is its own: turned, it leaves the bytes, and what is read again: for every input, no condition. (Written by tools/gen/gensamef.py.) -/
import Derived.Test.YtjblmgdjaaeedaaGreatFilTells
import Derived.Test.YtjblmgdjaaeedaaGreatFilCutC
import Derived.Test.YtjblmgdjaaeedaaGreatFilOpen
import Derived.Test.YtjblmgdjaaeedaaGreatRows
import Derived.Test.YtjblmgdjaaeedaaGreatChecked
import Derived.WalkKit
import Derived.ProofKit
import Derived.OpenShut
import Derived.ShutString
import Derived.ChangeOld
import Derived.Below
import Derived.Deep.RegionHeld
namespace Go.Proofs.YtjblmgdjaaeedaaGreat
namespace FileSame
open Num Kind Op4 Cls Fil
open Go.ChangeShapes Go.WideShapes Go.ChangeAt Go.RowKit
open Go.ChangeMaps (open_string shut_string)
set_option linter.unusedVariables false
set_option linter.unusedSimpArgs false
set_option maxRecDepth 100000

/-- What is written into: the methods' row in block gM, each method's instructions in a block of their own, the fields' row in block gF. -/
structure Wr (w : World) (base gM nm gF nf : Nat) (gs ns : Nat → Nat) : Prop where
  meths : ∃ cs, w.heap[gM]? = some (.cells cs 46 (0, 0)) ∧ cs.size = nm * 10 ∧ ∀ i, i < nm → cs[i * 10 + 7]? = some (.slice (some ⟨gs i, 0, none⟩) (ns i) (ns i))
  code : ∀ i, i < nm → ∃ cs, w.heap[gs i]? = some (.cells cs 48 (0, 0)) ∧ cs.size = ns i * 4
  flds : ∃ cs, w.heap[gF]? = some (.cells cs 40 (0, 0)) ∧ cs.size = nf * 3
  lowM : base ≤ gM
  lowF : base ≤ gF
  lows : ∀ i, i < nm → base ≤ gs i
theorem blk_apart {w : World} {b b' : Nat} {cs cs' : Array Value} {T T' : Nat} (h : w.heap[b]? = some (.cells cs T (0, 0))) (h' : w.heap[b']? = some (.cells cs' T' (0, 0))) (hT : T ≠ T') : b ≠ b' := fun e => by
  subst e
  rw [h] at h'
  cases h'
  exact hT rfl
theorem blk_kept {w : World} {b b' : Nat} {cs cs' : Array Value} {T T' : Nat} (h : w.heap[b]? = some (.cells cs T (0, 0))) (h' : w.heap[b']? = some (.cells cs' T' (0, 0))) (hT : T ≠ T') (j : Nat) (u : Value) : (w.setCell ⟨b', j, none⟩ u).heap[b]? = some (.cells cs T (0, 0)) :=
  (Below.heap_setCell w ⟨b', j, none⟩ u b (blk_apart h h' hT)).trans h
theorem Wr.ins {w : World} {base gM nm gF nf : Nat} {gs ns : Nat → Nat} (h : Wr w base gM nm gF nf gs ns) {i : Nat} (hi : i < nm) (j : Nat) (u : Value) : Wr (w.setCell ⟨gs i, j, none⟩ u) base gM nm gF nf gs ns := by
  obtain ⟨c0, h0, s0⟩ := h.code i hi
  obtain ⟨cm, hm, sm, fm⟩ := h.meths
  obtain ⟨cf, hf, sf⟩ := h.flds
  refine ⟨⟨cm, blk_kept hm h0 (by decide) _ _, sm, fm⟩, fun q hq => ?_, ⟨cf, blk_kept hf h0 (by decide) _ _, sf⟩, h.lowM, h.lowF, h.lows⟩
  obtain ⟨c1, h1, s1⟩ := h.code q hq
  by_cases e : gs q = gs i
  · rw [e]
    rw [e, h0] at h1
    cases h1
    exact ⟨_, blk_set h0 j u, by simpa using s1⟩
  · exact ⟨c1, (Below.heap_setCell w ⟨gs i, j, none⟩ u (gs q) e).trans h1, s1⟩
theorem Wr.name {w : World} {base gM nm gF nf : Nat} {gs ns : Nat → Nat} (h : Wr w base gM nm gF nf gs ns) (i : Nat) (u : Value) : Wr (w.setCell ⟨gM, i * 10, none⟩ u) base gM nm gF nf gs ns := by
  obtain ⟨cm, hm, sm, fm⟩ := h.meths
  obtain ⟨cf, hf, sf⟩ := h.flds
  refine ⟨⟨_, blk_set hm (i * 10) u, by simpa using sm, fun q hq => ?_⟩, fun q hq => ?_, ⟨cf, blk_kept hf hm (by decide) _ _, sf⟩, h.lowM, h.lowF, h.lows⟩
  · rw [Array.getElem?_setIfInBounds_ne (by omega)]
    exact fm q hq
  · obtain ⟨c1, h1, s1⟩ := h.code q hq
    exact ⟨c1, blk_kept h1 hm (by decide) _ _, s1⟩
theorem Wr.fld {w : World} {base gM nm gF nf : Nat} {gs ns : Nat → Nat} (h : Wr w base gM nm gF nf gs ns) (j : Nat) (u : Value) : Wr (w.setCell ⟨gF, j, none⟩ u) base gM nm gF nf gs ns := by
  obtain ⟨cm, hm, sm, fm⟩ := h.meths
  obtain ⟨cf, hf, sf⟩ := h.flds
  refine ⟨⟨cm, blk_kept hm hf (by decide) _ _, sm, fm⟩, fun q hq => ?_, ⟨_, blk_set hf j u, by simpa using sf⟩, h.lowM, h.lowF, h.lows⟩
  obtain ⟨c1, h1, s1⟩ := h.code q hq
  exact ⟨c1, blk_kept h1 hf (by decide) _ _, s1⟩
theorem Wr.later {w w' : World} {base gM nm gF nf : Nat} {gs ns : Nat → Nat} (h : Wr w base gM nm gF nf gs ns) (hb : Below w.heap.size w w') : Wr w' base gM nm gF nf gs ns := by
  obtain ⟨cm, hm, sm, fm⟩ := h.meths
  obtain ⟨cf, hf, sf⟩ := h.flds
  refine ⟨⟨cm, blk_on hm hb, sm, fm⟩, fun q hq => ?_, ⟨cf, blk_on hf hb, sf⟩, h.lowM, h.lowF, h.lows⟩
  obtain ⟨c1, h1, s1⟩ := h.code q hq
  exact ⟨c1, blk_on h1 hb, s1⟩
/-- How many instructions a class's method has. -/
def cl (c : ClsL) (i : Nat) : Nat := match c.methods[i]? with | some m => m.code.length | none => 0
/-- A class that was read: what can be written. -/
theorem wr_of {base : Nat} {w : World} {us : List Value} {c : ClsL} (h : clsN base (young base w) us c) :
    ∃ v3 gF gM gs, us = [.string c.name, .string c.super, .bool c.iface, v3, .slice (some ⟨gF, 0, none⟩) c.fields.length c.fields.length, .slice (some ⟨gM, 0, none⟩) c.methods.length c.methods.length] ∧ (∃ a n, v3 = .slice a c.impl.length n) ∧
      c.fields.length ≤ maxLen ∧ c.methods.length ≤ maxLen ∧ (∀ i, cl c i ≤ maxLen) ∧ Wr w base gM c.methods.length gF c.fields.length gs (cl c) := by
  obtain ⟨v3, v4, v5, rfl, s3, s4, n4, s5, n5, _, _⟩ := h
  obtain ⟨gF, cf, rfl, lF, hF, zF⟩ := n4
  obtain ⟨gM, cm, rfl, lM, hM, zM⟩ := n5
  rw [young_at lF] at hF
  rw [young_at lM] at hM
  obtain ⟨a3, c3, e3, _⟩ := s3
  obtain ⟨aF, cF, eF, lF1, lF2, _⟩ := s4
  obtain ⟨aM, cM, eM, lM1, lM2, _, hx⟩ := s5
  simp only [Value.slice.injEq] at eF eM
  have each : ∀ i, i < c.methods.length → ∃ g : Nat, base ≤ g ∧ (∃ cs, w.heap[g]? = some (.cells cs 48 (0, 0)) ∧ cs.size = (cl c i) * 4) ∧ cm[i * 10 + 7]? = some (.slice (some ⟨g, 0, none⟩) (cl c i) (cl c i)) ∧ cl c i ≤ maxLen := by
    intro i hi
    obtain ⟨b, off, eb, _, hxx⟩ := hx (by omega)
    obtain ⟨u1, u7, u8, u9, hMV, nI, hcs⟩ := hxx i hi
    obtain ⟨g, cs, rfl, lg, hg, zg⟩ := nI
    rw [young_at lg] at hg
    have e1 : cl c i = c.methods[i].code.length := by simp [cl, List.getElem?_eq_getElem hi]
    rw [← eM.1] at eb
    simp only [Option.some.injEq, Addr.mk.injEq, and_true] at eb
    obtain ⟨rfl, rfl⟩ := eb
    have h7 := hcs 7 (by decide)
    rw [Nat.zero_add] at h7
    have h8 : (young base w).heap[gM]? = some (.cells cm 46 (0, 0)) := by rw [young_at lM]; exact hM
    rw [blk_cell h8] at h7
    obtain ⟨a7, c7, e7, l7, m7, _⟩ := hMV.code
    rw [e1]
    refine ⟨g, lg, ⟨cs, hg, zg⟩, h7, ?_⟩
    simp only [Value.slice.injEq] at e7
    omega
  obtain ⟨gs, hgs⟩ := Deep.choose_lt each
  refine ⟨v3, gF, gM, gs, rfl, ⟨a3, c3, e3⟩, by omega, by omega, fun i => ?_, ⟨⟨cm, hM, zM, fun i hi => (hgs i hi).2.2.1⟩, fun i hi => (hgs i hi).2.1, ⟨cf, hF, zF⟩, lM, lF, fun i hi => (hgs i hi).1⟩⟩
  by_cases hi : i < c.methods.length
  · exact (hgs i hi).2.2.2
  · unfold cl
    rw [List.getElem?_eq_none (by omega)]
    exact Nat.zero_le _
theorem some_cell {w : World} {B T j : Nat} {cs : Array Value} (h : w.heap[B]? = some (.cells cs T (0, 0))) (hj : j < cs.size) : ∃ v, w.cell? ⟨B, j, none⟩ = some v := ⟨cs[j], by rw [blk_cell h]; simp [hj]⟩

theorem same_cls {w : World} {c : ClsL} {q31 q41 q51 q32 q42 q52 : Option Addr} {d31 d41 d51 d32 d42 d52 : Nat} (h1 : ClsV w (.slice q31 c.impl.length d31) (.slice q41 c.fields.length d41) (.slice q51 c.methods.length d51) c) (h2 : ClsV w (.slice q32 c.impl.length d32) (.slice q42 c.fields.length d42) (.slice q52 c.methods.length d52) c) :
    Calls Tryz.prog 14 #[.agg #[.string c.name, .string c.super, .bool c.iface, .slice q31 c.impl.length d31, .slice q41 c.fields.length d41, .slice q51 c.methods.length d51], .agg #[.string c.name, .string c.super, .bool c.iface, .slice q32 c.impl.length d32, .slice q42 c.fields.length d42, .slice q52 c.methods.length d52]] w fun e w' => e = .returned (.bool true) ∧ Below w.heap.size w w' := by
  obtain ⟨nm, su, fa, im, fs, ms⟩ := c
  exact ecls_same nm su fa im fs ms _ _ _ _ _ _ _ _ _ _ _ _ w h1 h2
set_option maxHeartbeats 16000000 in
theorem walk (v3 v4 v5 : Value) (c0 : ClsL) (x : Int) (w : World) (hc : ClsV w v3 v4 v5 c0) (wx : (Lit.int .i64 x).wf = true) :
    Calls Tryz.prog 7 #[clsVal v3 v4 v5 c0, .int .i64 x] w fun e w' => e = .returned (.bool true) ∧ Below w.heap.size w w' := by
  obtain ⟨nm, su, fa, im, fs, ms⟩ := c0
  obtain ⟨q3, d3, rfl, _⟩ := id hc.impl
  obtain ⟨q4, d4, rfl, _⟩ := id hc.fields
  obtain ⟨q5, d5, rfl, _⟩ := id hc.methods
  unfold clsVal
  simp only
  have ka := alloc1 w (.cells #[.string nm, .string su, .bool fa, .slice q3 im.length d3, .slice q4 fs.length d4, .slice q5 ms.length d5] 26)
  have BX0 := blk_new w #[.string nm, .string su, .bool fa, .slice q3 im.length d3, .slice q4 fs.length d4, .slice q5 ms.length d5] 26
  have HC : Hid _ := hc
  clear hc
  go_enter Tryz.func7, Tryz.ntmps7
  go_wp2_with fail
  refine (Fil.begun_any _).mono ?_
  rintro e w1 ⟨rfl, e1⟩
  have k1 := ka.trans (e1.mono ka.size)
  have BX := blk_on BX0 e1
  clear BX0 e1 ka
  have x0 := blk_cell BX 0
  have x1 := blk_cell BX 1
  have x2 := blk_cell BX 2
  have x3 := blk_cell BX 3
  have x4 := blk_cell BX 4
  have x5 := blk_cell BX 5
  simp only [List.getElem?_toArray, List.getElem?_cons_zero, List.getElem?_cons_succ] at x0 x1 x2 x3 x4 x5
  go_wp2_with fail
  refine (cutc_any nm su fa im fs ms q3 q4 q5 d3 d4 d5 _ (HC.out.later k1)).mono ?_
  rintro e wY ⟨u3, u4, u5, rfl, hVY, bY⟩
  unfold clsVal
  generalize cutC ⟨nm, su, fa, im, fs, ms⟩ = c at *
  obtain ⟨e3, f3, rfl, _⟩ := id hVY.impl
  obtain ⟨e4, f4, rfl, _⟩ := id hVY.fields
  obtain ⟨e5, f5, rfl, _⟩ := id hVY.methods
  have HVY : Hid _ := hVY
  have kY := k1.trans (bY.mono k1.size)
  have BXY := blk_on BX bY
  clear hVY x0 x1 x2 x3 x4 x5 bY BX k1
  go_upto_region 5 with (refine wpList_store_mid rfl _ _ _ rfl w.heap.size 0 #[.string c.name, .string c.super, .bool c.iface, .slice e3 c.impl.length f3, .slice e4 c.fields.length f4, .slice e5 c.methods.length f5] rfl rfl (there_blk BXY (by simp)) info6 (by simp [Value.oneCell']) ?_)
  have BZ : (wY.setCells w.heap.size 0 #[.string c.name, .string c.super, .bool c.iface, .slice e3 c.impl.length f3, .slice e4 c.fields.length f4, .slice e5 c.methods.length f5].toList).heap[w.heap.size]? = some (.cells #[.string c.name, .string c.super, .bool c.iface, .slice e3 c.impl.length f3, .slice e4 c.fields.length f4, .slice e5 c.methods.length f5] 26 (0, 0)) := blk_sets6 BXY _ _ _ _ _ _
  have eZ : Ext (msk pC wY) _ := ext_sets (p := pC) (T := 26) (by decide) #[.string c.name, .string c.super, .bool c.iface, .slice e3 c.impl.length f3, .slice e4 c.fields.length f4, .slice e5 c.methods.length f5].toList 0 wY _ BXY
  have kZ := below_sets (Nat.le_refl w.heap.size) #[.string c.name, .string c.super, .bool c.iface, .slice e3 c.impl.length f3, .slice e4 c.fields.length f4, .slice e5 c.methods.length f5].toList 0 _ kY
  have HVZ : Hid _ := Fil.ClsV.ext (ext_id pC _) (Fil.ClsV.ext eZ HVY.out)
  generalize wY.setCells w.heap.size 0 #[.string c.name, .string c.super, .bool c.iface, .slice e3 c.impl.length f3, .slice e4 c.fields.length f4, .slice e5 c.methods.length f5].toList = wZ at *
  clear eZ BXY kY HVY
  have y0 := blk_cell BZ 0
  have y1 := blk_cell BZ 1
  have y2 := blk_cell BZ 2
  have y3 := blk_cell BZ 3
  have y4 := blk_cell BZ 4
  have y5 := blk_cell BZ 5
  simp only [List.getElem?_toArray, List.getElem?_cons_zero, List.getElem?_cons_succ] at y0 y1 y2 y3 y4 y5
  have HE := fun W (b : Below wZ.heap.size wZ W) => encode_any _ _ _ _ W (HVZ.out.later b)
  unfold clsVal at HE
  go_wp2_with fail
  refine (HE _ (Below.refl _ _)).mono ?_
  rintro e w5 ⟨vE, rfl, ownE, hnil, b5⟩
  clear y0 y1 y2 y3 y4 y5
  by_cases hz : encodeL c = []
  case pos =>
    obtain rfl := hnil hz
    go_wp2_with fail
    go_ret
    exact ⟨rfl, kZ.trans (b5.mono kZ.size)⟩
  case neg =>
  have hpos : 0 < (encodeL c).length := by cases h : encodeL c with | nil => exact absurd h hz | cons _ _ => simp
  obtain ⟨hmay, hby⟩ := enc_parts (c := c) hz rfl
  have hle : (bytesL c).length ≤ 6000 := by rw [hby]; unfold encodeL; by_cases h : mayP c = true ∧ (bytesL c).length ≤ 6000; (rw [if_pos h]; exact h.2); (rw [if_neg h]; simp)
  have HBK : Hid (∀ (w w' : World) (e : Ending), Decoded w w' (encodeL c) e → ∃ us, e = .returned (.tuple #[.agg us.toArray, .int .i64 0]) ∧ clsN w.heap.size (young w.heap.size w') us c) := fun w w' e h => decoded_back hmay hle (by rw [hby]; exact h)
  have HEB : Hid _ := encodeL_bytes c
  have HENC : Hid _ := HE
  clear hmay hle hby hz hnil HE
  generalize encodeL c = es at *
  obtain ⟨g, cap, rfl, hg1, hg2⟩ := ownE.form hpos
  have HR : Hid _ := Has.own ownE
  have hcap := (Has.own ownE).cap
  have hcmx := (Has.own ownE).max
  unfold maxLen at hcmx
  have hl0 : ((es.length : Int) == 0) = false := by rw [beq_eq_false_iff_ne]; omega
  have kW := kZ.trans (b5.mono kZ.size)
  clear ownE
  go_wp2_with fail
  refine (decode_any _ _ _ es w5 HR.out HEB.out).mono ?_
  rintro e w6 ⟨hD, b6⟩
  obtain ⟨us, rfl, hN⟩ := HBK.out _ _ _ hD
  obtain ⟨v3, gF, gM, gs, rfl, ⟨a3, n3, rfl⟩, hmF, hmM, hmc, hWr⟩ := wr_of hN
  clear hD hN
  generalize cl c = ns at *
  have kd := alloc1 w6 (.cells #[.string c.name, .string c.super, .bool c.iface, .slice a3 c.impl.length n3, .slice (some ⟨gF, 0, none⟩) c.fields.length c.fields.length, .slice (some ⟨gM, 0, none⟩) c.methods.length c.methods.length] 26)
  have BD := blk_new w6 #[.string c.name, .string c.super, .bool c.iface, .slice a3 c.impl.length n3, .slice (some ⟨gF, 0, none⟩) c.fields.length c.fields.length, .slice (some ⟨gM, 0, none⟩) c.methods.length c.methods.length] 26
  have hW7 := hWr.later kd
  have b7 := b6.trans (kd.mono b6.size)
  have hMC : Hid _ := hmc
  unfold maxLen at hmF hmM
  have hDx : w5.heap.size ≤ w6.heap.size := b6.size
  clear hWr hmc
  go_upto_region 11 with fail
  generalize w6.alloc (.cells #[.string c.name, .string c.super, .bool c.iface, .slice a3 c.impl.length n3, .slice (some ⟨gF, 0, none⟩) c.fields.length c.fields.length, .slice (some ⟨gM, 0, none⟩) c.methods.length c.methods.length] 26) = w7 at *
  generalize w6.heap.size = D at *
  clear kd b6
  have HW : Hid _ := hW7
  have z5 := blk_cell BD 5
  simp only [List.getElem?_toArray, List.getElem?_cons_zero, List.getElem?_cons_succ] at z5
  go_wp2_with fail
  clear z5
  skip
  go_loopw [33] (fun i wr => ∃ k : Nat, k ≤ c.methods.length ∧ i = .int .i64 k ∧ wr.heap[D]? = some (.cells #[.string c.name, .string c.super, .bool c.iface, .slice a3 c.impl.length n3, .slice (some ⟨gF, 0, none⟩) c.fields.length c.fields.length, .slice (some ⟨gM, 0, none⟩) c.methods.length c.methods.length] 26 (0, 0)) ∧ Wr wr w5.heap.size gM c.methods.length gF c.fields.length gs ns ∧ Below w5.heap.size w5 wr) (fun i _ => c.methods.length - (intOf i).toNat)
  case atStart => exact ⟨0, by omega, rfl, BD, HW.out, b7⟩
  case round =>
    clear BD HW hW7 b7
    obtain ⟨k, hk, rfl, BD, hWr, hbel⟩ := hrel
    have HW : Hid _ := hWr
    have z5 := blk_cell BD 5
    have z4 := blk_cell BD 4
    simp only [List.getElem?_toArray, List.getElem?_cons_zero, List.getElem?_cons_succ] at z4 z5
    by_cases hlk : k < c.methods.length
    case pos =>
      obtain ⟨cm, hm, sm, fm⟩ := hWr.meths
      have x7 := blk_cell hm (k * 10 + 7)
      rw [fm k hlk] at x7
      have hn := hMC.out k
      unfold maxLen at hn
      obtain ⟨wo, hwo⟩ : ∃ x, x = wr := ⟨_, rfl⟩
      subst hwo
      clear hm sm fm hWr
      go_wp2_with fail
      clear x7 z5 z4
      go_loopw [43] (fun i wr => ∃ q : Nat, q ≤ ns k ∧ i = .int .i64 q ∧ wr.heap[D]? = some (.cells #[.string c.name, .string c.super, .bool c.iface, .slice a3 c.impl.length n3, .slice (some ⟨gF, 0, none⟩) c.fields.length c.fields.length, .slice (some ⟨gM, 0, none⟩) c.methods.length c.methods.length] 26 (0, 0)) ∧ Wr wr w5.heap.size gM c.methods.length gF c.fields.length gs ns ∧ Below w5.heap.size w5 wr) (fun i _ => ns k - (intOf i).toNat)
      case atStart => exact ⟨0, by omega, rfl, BD, HW.out, hbel⟩
      case round =>
        clear BD HW hbel
        obtain ⟨q, hq, rfl, BD, hWr, hbel⟩ := hrel
        have HW : Hid _ := hWr
        obtain ⟨cm, hm, sm, fm⟩ := hWr.meths
        have x7 := blk_cell hm (k * 10 + 7)
        rw [fm k hlk] at x7
        have z5 := blk_cell BD 5
        simp only [List.getElem?_toArray, List.getElem?_cons_zero, List.getElem?_cons_succ] at z5
        by_cases hlq : q < ns k
        case pos =>
          obtain ⟨ci, hi, si⟩ := hWr.code k hlk
          obtain ⟨ov, xo⟩ := some_cell (j := q * 4 + 1) hi (by omega)
          have xf := blk_free hi (q * 4 + 1)
          have hW2 : Hid _ := HW.out.ins hlk (q * 4 + 1) (.int .i64 x)
          have BD2 := blk_kept BD hi (by decide) (q * 4 + 1) (.int .i64 x)
          have kS := hbel.setCell (p := ⟨gs k, q * 4 + 1, none⟩) (HW.out.lows k hlk) (.int .i64 x)
          clear hm sm fm hi si hWr HW
          go_wp2_with fail
          go_roundw
          case rel => exact ⟨q + 1, by omega, by go_num, BD2, hW2.out, kS⟩
          case measure => simp [intOf]; omega
        case neg =>
          obtain ⟨ov, xo⟩ := some_cell (j := k * 10) hm (by omega)
          have xf := blk_free hm (k * 10)
          have hW2 : Hid _ := HW.out.name k (.string ⟨#[122, 122]⟩)
          have BD2 := blk_kept BD hm (by decide) (k * 10) (.string ⟨#[122, 122]⟩)
          have kS := hbel.setCell (p := ⟨gM, k * 10, none⟩) HW.out.lowM (.string ⟨#[122, 122]⟩)
          clear hm sm fm hWr HW x7
          go_wp2_with fail
          go_roundw
          case rel => exact ⟨k + 1, by omega, by go_num, BD2, hW2.out, kS⟩
          case measure => simp [intOf]; omega
    case neg =>
      obtain ⟨wo, hwo⟩ : ∃ x, x = wr := ⟨_, rfl⟩
      subst hwo
      clear hWr z5
      go_wp2_with fail
      clear z4
      go_loopw [66] (fun i wr => ∃ q : Nat, q ≤ c.fields.length ∧ i = .int .i64 q ∧ wr.heap[D]? = some (.cells #[.string c.name, .string c.super, .bool c.iface, .slice a3 c.impl.length n3, .slice (some ⟨gF, 0, none⟩) c.fields.length c.fields.length, .slice (some ⟨gM, 0, none⟩) c.methods.length c.methods.length] 26 (0, 0)) ∧ Wr wr w5.heap.size gM c.methods.length gF c.fields.length gs ns ∧ Below w5.heap.size w5 wr) (fun i _ => c.fields.length - (intOf i).toNat)
      case atStart => exact ⟨0, by omega, rfl, BD, HW.out, hbel⟩
      case round =>
        clear BD HW hbel
        obtain ⟨q, hq, rfl, BD, hWr, hbel⟩ := hrel
        have HW : Hid _ := hWr
        by_cases hlq : q < c.fields.length
        case pos =>
          have z4 := blk_cell BD 4
          simp only [List.getElem?_toArray, List.getElem?_cons_zero, List.getElem?_cons_succ] at z4
          obtain ⟨ci, hi, si⟩ := hWr.flds
          obtain ⟨ov, xo⟩ := some_cell (j := q * 3 + 1) hi (by omega)
          have xf := blk_free hi (q * 3 + 1)
          have hW2 : Hid _ := HW.out.fld (q * 3 + 1) (.string ⟨#[90, 122]⟩)
          have BD2 := blk_kept BD hi (by decide) (q * 3 + 1) (.string ⟨#[90, 122]⟩)
          have kS := hbel.setCell (p := ⟨gF, q * 3 + 1, none⟩) HW.out.lowF (.string ⟨#[90, 122]⟩)
          clear hi si hWr HW
          go_wp2_with fail
          go_roundw
          case rel => exact ⟨q + 1, by omega, by go_num, BD2, hW2.out, kS⟩
          case measure => simp [intOf]; omega
        case neg =>
          clear BD hWr HW
          have HR2 := HR.out.later hbel
          have HD := decode_any _ _ _ es wr HR2 HEB.out
          go_wp2_with fail
          refine HD.mono ?_
          rintro e w8 ⟨hD, b8⟩
          obtain ⟨us, rfl, hN⟩ := HBK.out _ _ _ hD
          obtain ⟨v3, v4, v5, hus, hV8⟩ := hN.cls
          obtain ⟨o3, p3, rfl, _⟩ := id hV8.impl
          obtain ⟨o4, p4, rfl, _⟩ := id hV8.fields
          obtain ⟨o5, p5, rfl, _⟩ := id hV8.methods
          subst hus
          clear hD hN HD
          have k8 := hbel.trans (b8.mono hbel.size)
          have kd := alloc1 w8 (.cells #[.string c.name, .string c.super, .bool c.iface, .slice o3 c.impl.length p3, .slice o4 c.fields.length p4, .slice o5 c.methods.length p5] 26)
          have BF := blk_new w8 #[.string c.name, .string c.super, .bool c.iface, .slice o3 c.impl.length p3, .slice o4 c.fields.length p4, .slice o5 c.methods.length p5] 26
          have k9 := k8.trans (kd.mono k8.size)
          have H9 : Hid _ := hV8.later kd
          have kZ9 := b5.trans (k9.mono b5.size)
          have BC := blk_on BZ kZ9
          have HC9 : Hid _ := HVZ.out.later kZ9
          have HR9 : Hid _ := HR.out.later k9
          clear hV8 HR2
          go_upto_region 27 with fail
          generalize w8.alloc (.cells #[.string c.name, .string c.super, .bool c.iface, .slice o3 c.impl.length p3, .slice o4 c.fields.length p4, .slice o5 c.methods.length p5] 26) = w9 at *
          generalize w8.heap.size = F at *
          clear kd
          have x0 := blk_cell BF 0
          have x1 := blk_cell BF 1
          have x2 := blk_cell BF 2
          have x3 := blk_cell BF 3
          have x4 := blk_cell BF 4
          have x5 := blk_cell BF 5
          have y0 := blk_cell BC 0
          have y1 := blk_cell BC 1
          have y2 := blk_cell BC 2
          have y3 := blk_cell BC 3
          have y4 := blk_cell BC 4
          have y5 := blk_cell BC 5
          simp only [List.getElem?_toArray, List.getElem?_cons_zero, List.getElem?_cons_succ] at x0 y0 x1 y1 x2 y2 x3 y3 x4 y4 x5 y5
          have kk : Below w9.heap.size w9 w9.drew := (Below.refl _ _).drew
          have HQ : ∀ W, Below w9.heap.size w9 W → Calls Tryz.prog 14 #[.agg #[.string c.name, .string c.super, .bool c.iface, .slice o3 c.impl.length p3, .slice o4 c.fields.length p4, .slice o5 c.methods.length p5], .agg #[.string c.name, .string c.super, .bool c.iface, .slice e3 c.impl.length f3, .slice e4 c.fields.length f4, .slice e5 c.methods.length f5]] W fun e w' => e = .returned (.bool true) ∧ Below W.heap.size W w' := fun W b => same_cls (H9.out.later b) (HC9.out.later b)
          refine wp_region_held_drew (S := fun W' => W'.cell? ⟨F, 0, none⟩ = some (.string c.name) ∧ W'.cell? ⟨F, 1, none⟩ = some (.string c.super) ∧ W'.cell? ⟨F, 2, none⟩ = some (.bool c.iface) ∧ W'.cell? ⟨F, 3, none⟩ = some (.slice o3 c.impl.length p3) ∧ W'.cell? ⟨F, 4, none⟩ = some (.slice o4 c.fields.length p4) ∧ W'.cell? ⟨F, 5, none⟩ = some (.slice o5 c.methods.length p5) ∧ W'.cell? ⟨w.heap.size, 0, none⟩ = some (.string c.name) ∧ W'.cell? ⟨w.heap.size, 1, none⟩ = some (.string c.super) ∧ W'.cell? ⟨w.heap.size, 2, none⟩ = some (.bool c.iface) ∧ W'.cell? ⟨w.heap.size, 3, none⟩ = some (.slice e3 c.impl.length f3) ∧ W'.cell? ⟨w.heap.size, 4, none⟩ = some (.slice e4 c.fields.length f4) ∧ W'.cell? ⟨w.heap.size, 5, none⟩ = some (.slice e5 c.methods.length f5) ∧ Sem.run Tryz.prog (convert 29 9 (.slice (some ⟨g, 0, none⟩) es.length cap)) W' = .ok (.string (strOfNums es)) W') (by kernel_rfl) ⟨cellOn x0 kk, cellOn x1 kk, cellOn x2 kk, cellOn x3 kk, cellOn x4 kk, cellOn x5 kk, cellOn y0 kk, cellOn y1 kk, cellOn y2 kk, cellOn y3 kk, cellOn y4 kk, cellOn y5 kk, (HR9.out.later kk).str⟩ (fun hHeld => ?_)
          refine wpAnyH_take (i := 0) (oi := ⟨some 80, _, _, _, _, _⟩) (v := ?_) rfl (by kernel_rfl) (by kernel_rfl) (by kernel_rfl) (fun _ _ _ h => h) (Or.inl ⟨by kernel_rfl, fun Wx hSw => ?_⟩) (by assumption) ?_
          rotate_left
          · ((try dsimp only at hSw); go_simp; try with_reducible rfl)
          simp only [Act.put, List.setIfInBounds_toArray, List.set_cons_zero, List.set_cons_succ]
          refine wpAnyH_take (i := 1) (oi := ⟨some 81, _, _, _, _, _⟩) (v := ?_) rfl (by kernel_rfl) (by kernel_rfl) (by kernel_rfl) (fun _ _ _ h => h) (Or.inl ⟨by kernel_rfl, fun Wx hSw => ?_⟩) (by assumption) ?_
          rotate_left
          · ((try dsimp only at hSw); go_simp; try with_reducible rfl)
          simp only [Act.put, List.setIfInBounds_toArray, List.set_cons_zero, List.set_cons_succ]
          refine wpAnyH_take (i := 2) (oi := ⟨some 82, _, _, _, _, _⟩) (v := ?_) rfl (by kernel_rfl) (by kernel_rfl) (by kernel_rfl) (fun _ _ _ h => h) (Or.inl ⟨by kernel_rfl, fun Wx hSw => ?_⟩) (by assumption) ?_
          rotate_left
          · ((try dsimp only at hSw); go_simp; try with_reducible rfl)
          simp only [Act.put, List.setIfInBounds_toArray, List.set_cons_zero, List.set_cons_succ]
          refine wpAnyH_take (i := 3) (oi := ⟨some 83, _, _, _, _, _⟩) (v := ?_) rfl (by kernel_rfl) (by kernel_rfl) (by kernel_rfl) (fun _ _ _ h => h) (Or.inl ⟨by kernel_rfl, fun Wx hSw => ?_⟩) (by assumption) ?_
          rotate_left
          · ((try dsimp only at hSw); go_simp; try with_reducible rfl)
          simp only [Act.put, List.setIfInBounds_toArray, List.set_cons_zero, List.set_cons_succ]
          refine wpAnyH_take (i := 4) (oi := ⟨some 84, _, _, _, _, _⟩) (v := ?_) rfl (by kernel_rfl) (by kernel_rfl) (by kernel_rfl) (fun _ _ _ h => h) (Or.inl ⟨by kernel_rfl, fun Wx hSw => ?_⟩) (by assumption) ?_
          rotate_left
          · ((try dsimp only at hSw); go_simp; try with_reducible rfl)
          simp only [Act.put, List.setIfInBounds_toArray, List.set_cons_zero, List.set_cons_succ]
          refine wpAnyH_ready (rs := [5]) (by kernel_rfl) (by simp) ?_
          refine AllReadyH.cons (o := ⟨some 85, _, _, _, _, _⟩) rfl (fun K hK => ?_) AllReadyH.nil
          go_simp
          go_wp2_with (go_at_call 14; refine (HQ _ kk).mono ?_; rintro e wa ⟨rfl, ba⟩)
          have kk := kk.trans (ba.mono kk.size)
          refine hK.out _ _ ⟨cellOn x0 kk, cellOn x1 kk, cellOn x2 kk, cellOn x3 kk, cellOn x4 kk, cellOn x5 kk, cellOn y0 kk, cellOn y1 kk, cellOn y2 kk, cellOn y3 kk, cellOn y4 kk, cellOn y5 kk, (HR9.out.later kk).str⟩ (fun hHeld => ?_)
          clear hK K
          refine wpAnyH_take (i := 6) (oi := ⟨some 86, _, _, _, _, _⟩) (v := ?_) rfl (by kernel_rfl) (by kernel_rfl) (by kernel_rfl) (fun _ _ _ h => h) (Or.inl ⟨by kernel_rfl, fun Wx hSw => ?_⟩) (by assumption) ?_
          rotate_left
          · ((try dsimp only at hSw); go_simp; try with_reducible rfl)
          simp only [Act.put, List.setIfInBounds_toArray, List.set_cons_zero, List.set_cons_succ]
          refine wpAnyH_take (i := 7) (oi := ⟨some 87, _, _, _, _, _⟩) (v := ?_) rfl (by kernel_rfl) (by kernel_rfl) (by kernel_rfl) (fun _ _ _ h => h) (Or.inl ⟨by kernel_rfl, fun Wx hSw => ?_⟩) (by assumption) ?_
          rotate_left
          · ((try dsimp only at hSw); go_simp; try with_reducible rfl)
          simp only [Act.put, List.setIfInBounds_toArray, List.set_cons_zero, List.set_cons_succ]
          refine wpAnyH_take (i := 8) (oi := ⟨some 88, _, _, _, _, _⟩) (v := ?_) rfl (by kernel_rfl) (by kernel_rfl) (by kernel_rfl) (fun _ _ _ h => h) (Or.inl ⟨by kernel_rfl, fun Wx hSw => ?_⟩) (by assumption) ?_
          rotate_left
          · ((try dsimp only at hSw); go_simp; try with_reducible rfl)
          simp only [Act.put, List.setIfInBounds_toArray, List.set_cons_zero, List.set_cons_succ]
          refine wpAnyH_take (i := 11) (oi := ⟨some 91, _, _, _, _, _⟩) (v := ?_) rfl (by kernel_rfl) (by kernel_rfl) (by kernel_rfl) (fun _ _ _ h => h) (Or.inl ⟨by kernel_rfl, fun Wx hSw => ?_⟩) (by assumption) ?_
          rotate_left
          · ((try dsimp only at hSw); go_simp; try with_reducible rfl)
          simp only [Act.put, List.setIfInBounds_toArray, List.set_cons_zero, List.set_cons_succ]
          refine wpAnyH_take (i := 12) (oi := ⟨some 92, _, _, _, _, _⟩) (v := ?_) rfl (by kernel_rfl) (by kernel_rfl) (by kernel_rfl) (fun _ _ _ h => h) (Or.inl ⟨by kernel_rfl, fun Wx hSw => ?_⟩) (by assumption) ?_
          rotate_left
          · ((try dsimp only at hSw); go_simp; try with_reducible rfl)
          simp only [Act.put, List.setIfInBounds_toArray, List.set_cons_zero, List.set_cons_succ]
          refine wpAnyH_ready (rs := [9]) (by kernel_rfl) (by simp) ?_
          refine AllReadyH.cons (o := ⟨some 89, _, _, _, _, _⟩) rfl (fun K hK => ?_) AllReadyH.nil
          have kE := kZ9.trans (kk.mono kZ9.size)
          have HE2 := HENC.out _ kE
          go_simp
          go_wp2_with (go_at_call 10; refine HE2.mono ?_; rintro e wb ⟨vB, rfl, ownB, _, bb⟩; obtain ⟨gB, cB, rfl, _, _⟩ := ownB.form hpos)
          have kk := kk.trans (bb.mono kk.size)
          have hsB := (Has.own ownB).str
          clear ownB
          refine hK.out _ _ ⟨cellOn x0 kk, cellOn x1 kk, cellOn x2 kk, cellOn x3 kk, cellOn x4 kk, cellOn x5 kk, cellOn y0 kk, cellOn y1 kk, cellOn y2 kk, cellOn y3 kk, cellOn y4 kk, cellOn y5 kk, (HR9.out.later kk).str⟩ (fun hHeld => ?_)
          clear hK K
          refine wpAnyH_ready (rs := [10]) (by kernel_rfl) (by simp) ?_
          refine AllReadyH.cons (o := ⟨some 90, _, _, _, _, _⟩) rfl (fun K hK => ?_) AllReadyH.nil
          go_simp
          refine hK.out _ _ (by assumption) (fun hHeld => ?_)
          clear hK K
          refine wpAnyH_take (i := 13) (oi := ⟨some 93, _, _, _, _, _⟩) (v := ?_) rfl (by kernel_rfl) (by kernel_rfl) (by kernel_rfl) (fun _ _ _ h => h) (Or.inl ⟨by kernel_rfl, fun Wx hSw => ?_⟩) (by assumption) ?_
          rotate_left
          · ((try dsimp only at hSw); go_simp; try with_reducible rfl)
          simp only [Act.put, List.setIfInBounds_toArray, List.set_cons_zero, List.set_cons_succ]
          refine wpAnyH_take (i := 14) (oi := ⟨some 94, _, _, _, _, _⟩) (v := ?_) rfl (by kernel_rfl) (by kernel_rfl) (by kernel_rfl) (fun _ _ _ h => h) (Or.inl ⟨by kernel_rfl, fun Wx hSw => ?_⟩) (by assumption) ?_
          rotate_left
          · ((try dsimp only at hSw); go_simp; try with_reducible rfl)
          simp only [Act.put, List.setIfInBounds_toArray, List.set_cons_zero, List.set_cons_succ]
          refine wpAnyH_take (i := 15) (oi := ⟨some 4, _, _, _, _, _⟩) (v := ?_) rfl (by kernel_rfl) (by kernel_rfl) (by kernel_rfl) (fun _ _ _ h => h) (Or.inl ⟨by kernel_rfl, fun Wx hSw => ?_⟩) (by assumption) ?_
          rotate_left
          · ((try dsimp only at hSw); go_simp; try with_reducible rfl)
          simp only [Act.put, List.setIfInBounds_toArray, List.set_cons_zero, List.set_cons_succ]
          refine wpAnyH_done (by kernel_rfl) ?_ _
          go_wp2_with fail
          go_ret
          exact ⟨rfl, (kW.trans (k9.mono kW.size)).trans (kk.mono (Nat.le_trans kW.size k9.size))⟩
/-! ### The row -/
theorem own : ownKnob Tryz.prog.godebug = none := by kernel_rfl
theorem laidOut : laidOutB Tryz.prog = true := by kernel_rfl
set_option maxRecDepth 100000 in
theorem lifted (os : Os) (started : os.Started) (H : Type) (enc : TypeId × Value → H) :
    ReturnsInHanded {} Tryz.checked os 7 .any (Rows.fileSameSpec.pre6 enc Tryz.prog Tryz.f7 Rows.fileSameRow.domain false) (Rows.fileSameSpec.post enc Tryz.prog Tryz.f7 false true false false) := by
  refine returnsInHanded_of_change (C := Tryz.checked) own started (by kernel_rfl) Tryz.func7
    (ChangeSpec.witness6 (enc := enc) (C := Tryz.checked) false ⟨#[], #[.agg #[.string ByteArray.empty, .string ByteArray.empty, .bool false, .slice none 0 0, .slice none 0 0, .slice none 0 0], .int .i64 0], []⟩ 8 (by kernel_rfl) (by kernel_rfl) (by kernel_rfl) (by kernel_rfl)) ?_
  intro W base args ds gs before hval0 hW hcnd _
  have hval : ∀ (j : Nat) t v, Tryz.f7.params[j]? = some t → args[j]? = some v → Value.okWide Tryz.prog W .any base t v := hval0
  have hW' := hW
  obtain ⟨p, q, hA0, hV, rfl, hfz, hnd⟩ := hW
  have hA : DataW.TrodAll enc Tryz.prog W 0 (fun _ => true) true Tryz.f7.params.toList args.toList ds p := hA0
  rw [Tryz.params7] at hA hval
  obtain ⟨v0, vs0, d0, ds0, p0, q0, hargs, rfl, rfl, h0, r0⟩ := trodAll_cons hA
  obtain ⟨v1, vs1, d1, ds1, p1, q1, rfl, rfl, rfl, h1, r1⟩ := trodAll_cons r0
  obtain ⟨rfl, rfl, rfl⟩ := trodAll_nil r1
  obtain rfl : args = #[v0, v1] := by cases args; simp_all
  obtain ⟨rfl, rfl⟩ := trodVars_none hV
  have k0 := h0
  have lt0 : ∀ x ∈ p0, x.block < W.heap.size := by obtain ⟨m, hm⟩ := k0; exact DataW.trod_lt m _ _ _ hm
  obtain ⟨x0, y0, z0, c0, rfl, w0⟩ := Fil.open_cls (hval 0 26 v0 rfl rfl) h0
  obtain ⟨a1, rfl, rfl, rfl, w1⟩ := open_int Tryz.underlying3 (hval 1 3 v1 rfl rfl) h1
  clear hA0 hval0
  refine (walk x0 y0 z0 c0 a1 W w0 w1).mono fun e W' ⟨he, bel⟩ => ?_
  subst he
  exact ⟨_, rfl, _, _, _, [], _, [], hW', trodAll_mk1 (shut_bool Tryz.underlying4 _), (trodAll_cons_mk (Below.trod laidOut (by kernel_rfl) (of_decide_eq_true (by kernel_rfl)) k0 bel lt0) (trodAll_cons_mk (shut_int Tryz.underlying3 w1) trodAll_mk0)), rfl, bel.frame _, fun h => by cases h⟩

theorem over : Rows.fileSameRow.holds Tryz.pinned (OpenSpec.ofChange Rows.fileSameSpec) :=
  OpenClaim.holds_of_wide 7 Tryz.f7 rfl rfl rfl rfl rfl rfl rfl ⟨rfl, rfl, rfl, rfl, rfl⟩ rfl rfl rfl rfl rfl (by kernel_rfl) Tryz.func7 (by kernel_rfl)
    (of_decide_eq_true (by kernel_rfl)) (by unfold Func.isWrapper; first | (rw [if_pos (by decide +kernel)]; kernel_rfl) | (rw [if_neg (by decide +kernel)]; exact ⟨rfl, rfl⟩))
    (fun os started H enc _ => lifted os started H enc)

end FileSame

theorem fileSame_holds : Rows.FileSameSaid := FileSame.over
#print axioms fileSame_holds
end Go.Proofs.YtjblmgdjaaeedaaGreat

