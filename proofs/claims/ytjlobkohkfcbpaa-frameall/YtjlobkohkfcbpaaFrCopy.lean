/- 'copy' of elements of several cells into the midst of a block; slices.Clone of values. -/
import Derived.Test.YtjlobkohkfcbpaaFrMem
import Derived.Laws.CopyOwn
import Derived.Deep.Cut
import Derived.Deep.DeepCutAuto
import Derived.Deep.RegionWith
import Derived.Deep.RegionHeldLaw
import Derived.Deep.AppendLies
namespace Go.Proofs.Ytjlobkohkfcbpaa
namespace Fr
open Mem
open Go.RowKit
set_option linter.unusedVariables false
set_option linter.unusedSimpArgs false
set_option maxRecDepth 100000

theorem run_copy2 {P : Program} (w : World) (dT sT ty elem : TypeId) (size : Nat) (hu : P.underlying dT = some (.slice elem)) (hs : (P.info? elem).map (·.size) = some size) (n : Nat) (dp sp : Option Addr) (dLen dCap sLen sCap : Nat)
    (hn : Nat.min sLen dLen = n) (g o : Nat) (cur : List Value) (t : TypeId) (hg : w.heap[g]? = some (.cells cur.toArray t (0, 0))) (cs : List Value) (hl : cs.length = n * size)
    (hd : 0 < n → dp = some ⟨g, o, none⟩ ∧ ∃ ad, sp = some ad ∧ ∀ j v, cs[j]? = some v → w.cell? (ad.add j) = some v) (hfit : o + cs.length ≤ cur.length) (h1 : ∀ v ∈ cs, v.oneCell' = true) :
    (Builtin.copy_ #[dT, sT] ty #[.slice dp dLen dCap, .slice sp sLen sCap]).run P w = .ok (goInt n) (w.setRow g (cur.take o ++ cs ++ cur.drop (o + cs.length)).toArray) := by
  cases hq : P.info? elem with
  | none => simp [hq] at hs
  | some i =>
    have hi : i.size = size := by simpa [hq] using hs
    by_cases h0 : n = 0
    · subst h0
      obtain rfl : cs = [] := List.eq_nil_of_length_eq_zero (by simpa using hl)
      have hl0 : ∀ (x : Addr), (loadCells x 0).run P w = .ok #[] w := fun x => by simpa using run_loadCells_list (P := P) w x [] (by simp)
      have e : w.setRow g (cur.take o ++ [] ++ cur.drop (o + 0)).toArray = w := by
        rw [List.append_nil, Nat.add_zero, List.take_append_drop]
        exact setRow_self w g _ t (0, 0) hg
      rw [List.length_nil, e]
      cases dp <;> cases sp <;> simp [Builtin.copy_, run_underlying hu, Builtin.lenOf, Builtin.firstCells, sizeOf, typeInfo, hq, hn, storeCells, hl0]
    · obtain ⟨rfl, ad, rfl, hsrc⟩ := hd (by omega)
      have hl2 := run_loadCells_list (P := P) w ad cs hsrc
      have hst := run_storeCells_at P g o t cs 0 cur.toArray w hg (by simpa using hfit) h1
      simp only [Nat.add_zero] at hst
      rw [hl] at hl2
      simp [Builtin.copy_, run_underlying hu, Builtin.lenOf, Builtin.firstCells, sizeOf, typeInfo, hq, hi, hn, hl2, hst]
section
variable {P : Program} {w : World} {ops : Array Oper} {rest : List Oper} {o : Oper} {a : Act} {Q : Exit → Act → World → Prop} (hgd : o.guard = none) (d s : Operand) (dT sT : TypeId)
    (ho : o.op = .call { callee := .builtin .copy, args := #[d, s], argTypes := #[dT, sT] }) (elem : TypeId) (size : Nat) (hu : P.underlying dT = some (.slice elem)) (hsz : (P.info? elem).map (·.size) = some size)
    (dp sp : Option Addr) (dLen dCap sLen sCap : Nat) (hd : a.eval d = .slice dp dLen dCap) (hs : a.eval s = .slice sp sLen sCap) (n : Nat) (hn : Nat.min sLen dLen = n)
    (g off : Nat) (cur : List Value) (t : TypeId) (hg : w.heap[g]? = some (.cells cur.toArray t (0, 0))) (cs : List Value) (hl : cs.length = n * size)
    (hpos : 0 < n → dp = some ⟨g, off, none⟩ ∧ ∃ ad, sp = some ad ∧ ∀ j v, cs[j]? = some v → w.cell? (ad.add j) = some v)
    (hfit : off + cs.length ≤ cur.length) (h1 : ∀ v ∈ cs, v.oneCell' = true)
include hgd ho hu hsz hd hs hn hg hl hpos hfit h1
theorem wpList_copy2 (h : ∀ w', Hid (w'.heap[g]? = some (.cells (cur.take off ++ cs ++ cur.drop (off + cs.length)).toArray t (0, 0))) → Off (At g) w w' → wpList P ops Q rest (a.put o.dst (.int .i64 n)) w') : wpList P ops Q (o :: rest) a w := by
  refine wpList_plain hgd fun K hK => ?_
  have hrun := run_copy2 (P := P) w dT sT o.type elem size hu hsz n dp sp dLen dCap sLen sCap hn g off cur t hg cs hl hpos hfit h1
  unfold Oper.wp
  simp only [execOp, ho, resolve, invoke, builtin, Sem.run_bind, Sem.run_pure, Result.andThen_ok, List.map_toArray, List.map_cons, List.map_nil, hd, hs, hrun]
  exact hK _ _ (h _ (setRow_heap w g _ _ t _ hg) ⟨rfl, rfl, rfl, by simp [World.setRow], fun k hk hne => setRow_other w g k _ hne⟩)
theorem step_copy2 {K : Act → World → Prop} {E : Prop} (h : ∀ w', Hid (w'.heap[g]? = some (.cells (cur.take off ++ cs ++ cur.drop (off + cs.length)).toArray t (0, 0))) → Off (At g) w w' → K (a.put o.dst (.int .i64 n)) w') :
    if Region.wanted o (yielded ops a.tmps) = true then Oper.wp P o a w K Q else E := by
  have hw : Region.wanted o (yielded ops a.tmps) = true := by simp [Region.wanted, hgd]
  rw [if_pos hw]
  have hrun := run_copy2 (P := P) w dT sT o.type elem size hu hsz n dp sp dLen dCap sLen sCap hn g off cur t hg cs hl hpos hfit h1
  unfold Oper.wp
  simp only [execOp, ho, resolve, invoke, builtin, Sem.run_bind, Sem.run_pure, Result.andThen_ok, List.map_toArray, List.map_cons, List.map_nil, hd, hs, hrun]
  exact h _ (setRow_heap w g _ _ t _ hg) ⟨rfl, rfl, rfl, by simp [World.setRow], fun k hk hne => setRow_other w g k _ hne⟩
end
theorem slice_lh (p K D : Nat) (h1 : K ≤ D) (h2 : D ≤ 16) (h3 : ¬ 16 = K) : ∀ w, (Instr.sliceAt 47 (.pointer (some ⟨p, 35, none⟩)) (some (.int .i64 (K : Int))) (some (.int .i64 (D : Int))) none).run Try.prog w = .ok (.slice (some ⟨p, 35 + K * 2, none⟩) (D - K) (16 - K)) w := by
  intro w
  have hu : Try.prog.underlying 47 = some (.array (Try.prog.arrayLen 47) (Try.prog.elem 47)) := by kernel_rfl
  have e1 : Try.prog.arrayLen 47 = 16 := by kernel_rfl
  have e2 : Try.prog.elem 47 = 31 := by kernel_rfl
  have e3 : (sizeOf 31).run Try.prog w = .ok 2 w := by kernel_rfl
  rw [run_sliceAt_array_lh (ht := hu) (h0 := by omega) (h1 := by omega) (h2 := by rw [e1]; omega), e1, e2, e3, Result.andThen_ok, Int.toNat_natCast, Int.toNat_natCast, slicedAt, if_neg h3, Addr.add_lit]
theorem slice_l (p K : Nat) (h2 : K ≤ 16) : ∃ ad : Addr, (K < 16 → ad = ⟨p, 35 + 2 * K, none⟩) ∧ ∀ w, (Instr.sliceAt 47 (.pointer (some ⟨p, 35, none⟩)) (some (.int .i64 (K : Int))) none none).run Try.prog w = .ok (.slice (some ad) (16 - K) (16 - K)) w := by
  have hu : Try.prog.underlying 47 = some (.array (Try.prog.arrayLen 47) (Try.prog.elem 47)) := by kernel_rfl
  have e1 : Try.prog.arrayLen 47 = 16 := by kernel_rfl
  have e2 : Try.prog.elem 47 = 31 := by kernel_rfl
  have e3 : ∀ w, (sizeOf 31).run Try.prog w = .ok 2 w := fun w => by kernel_rfl
  refine ⟨if 16 = K then ⟨p, 35, none⟩ else (⟨p, 35, none⟩ : Addr).add (K * 2), fun h => ?_, fun w => ?_⟩
  · rw [if_neg (by omega), Addr.add_lit, Nat.mul_comm]
  · rw [run_sliceAt_array_l (ht := hu) (h0 := by omega) (h1 := by rw [e1]; omega), e1, e2, e3, Result.andThen_ok, Int.toNat_natCast, slicedAt]
theorem slice_h (p o K : Nat) (h2 : K ≤ 16) (hK : 16 ≠ 0) : ∀ w, (Instr.sliceAt 47 (.pointer (some ⟨p, o, none⟩)) none (some (.int .i64 (K : Int))) none).run Try.prog w = .ok (.slice (some ⟨p, o, none⟩) K 16) w := by
  have hu : Try.prog.underlying 47 = some (.array (Try.prog.arrayLen 47) (Try.prog.elem 47)) := by kernel_rfl
  have e1 : Try.prog.arrayLen 47 = 16 := by kernel_rfl
  have e2 : Try.prog.elem 47 = 31 := by kernel_rfl
  have e3 : ∀ w, (sizeOf 31).run Try.prog w = .ok 2 w := fun w => by kernel_rfl
  intro w
  rw [run_sliceAt_array_h (ht := hu) (h0 := by omega) (h2 := by rw [e1]; omega), e1, e2, e3, Result.andThen_ok, Int.toNat_natCast, slicedAt, if_neg hK, Addr.add_lit]
  rfl
theorem infoV : (Try.prog.info? 31).map (fun i => (i.zero, i.size, i.bytes)) = some (some (.agg #[.bool false, .int .i32 0]), 2, 8) := by kernel_rfl
theorem sizeV : (Try.prog.info? 31).map (·.size) = some 2 := by kernel_rfl
theorem nil_v (w : World) : (binOp .eql 22 (.slice none 0 0) (.slice none 0 0)).run Try.prog w = .ok (.bool true) w := by kernel_rfl
theorem some_v (a : Addr) (n c : Nat) (w : World) : (binOp .eql 22 (.slice (some a) n c) (.slice none 0 0)).run Try.prog w = .ok (.bool false) w := by kernel_rfl
set_option maxHeartbeats 2000000 in
theorem clone_any (ad : Addr) (n c : Nat) (l : List Vl) (w : World) (h : Vs w (.slice (some ad) n c) l) (hn : n ≤ 10000000000) :
    Calls Try.prog 22 #[.slice (some ad) n c] w fun e w' => ∃ v', e = .returned v' ∧ w'.ownsRow w.heap.size 31 2 v' n (cellsV l) ∧ Below w.heap.size w w' := by
  obtain ⟨i0, hi, hz0, hz1, hz2⟩ := info_parts infoV
  obtain ⟨hlen, _, _, _⟩ := vs_len h
  have hln : (cellsV l).length = n * 2 := by rw [cellsV_len]; omega
  have hq := some_v ad n c w
  have ka := alloc1 w (.cells #[] 31)
  have own0 : (w.alloc (.cells #[] 31)).ownsRow w.heap.size 31 2 (.slice (some ⟨w.heap.size, 0, none⟩) 0 0) 0 [] :=
    ⟨by simp, .inr ⟨w.heap.size, 0, _, rfl, Nat.le_refl _, heap_alloc_new w _, Nat.le_refl _, Nat.zero_le _, by simp, by simp⟩⟩
  have HN : Hid _ := vs_news (h.later valE_stable ka) ad rfl
  have hB := ka.size
  have HL : Hid _ := hln
  have HO : Hid _ := cellsV_one l
  clear h hln hlen
  go_enter Try.func22, Try.ntmps22
  go_wp2_with (at_builtin; refine wpList_append_own _ rfl (.tmp 5) (.tmp 6) 22 rfl w.heap.size 31 i0 (.agg #[.bool false, .int .i32 0]) 2 8 Try.underlying22 hi hz0 hz1 hz2 rfl (by decide) (.slice (some ⟨w.heap.size, 0, none⟩) 0 0) 0 [] rfl own0 ad n c (cellsV l) rfl HL.out HN.out HO.out (by unfold maxLen; omega) (by omega) hB ?_; intro v' w' h2 h3 h4)
  have kb := ka.grown h3 hB (fun k e => by cases e; exact Nat.le_refl _)
  rw [List.nil_append, Nat.zero_add] at h2
  go_ret
  exact ⟨_, rfl, h2, kb⟩
end Fr
end Go.Proofs.Ytjlobkohkfcbpaa
