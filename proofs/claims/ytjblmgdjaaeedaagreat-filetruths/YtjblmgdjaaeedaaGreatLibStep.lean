/- 'append' of whatever bytes onto a row of the call's own, as one step of a region that draws its order. -/
import Derived.Test.YtjblmgdjaaeedaaGreatLibOwn
import Derived.Deep.RegionLaw
namespace Go.Proofs.YtjblmgdjaaeedaaGreat
namespace Num
open Go.RowKit
set_option linter.unusedVariables false
set_option maxRecDepth 100000

theorem step_has {P : Program} {ops : Array Oper} {o : Oper} {a : Act} {w : World} {K : Act → World → Prop} {Q : Exit → Act → World → Prop} {E : Prop} (hg : o.guard = none) (s x : Operand) (t : TypeId)
    (hop : o.op = .call { callee := .builtin .append, args := #[s, x], argTypes := #[t, t] })
    (base : Nat) (i : TypeInfo) (ht : P.underlying t = some (.slice 5)) (hi : P.info? 5 = some i) (hz : i.zero = some (.int .u8 0)) (hsize : i.size = 1) (hby : i.bytes = 1)
    (v : Value) (n : Nat) (xs : List Int) (hs : a.eval s = v) (hown : w.ownsRow base 5 1 v n (cellsOf xs))
    (sa : Option Addr) (m c : Nat) (ys : List Int) (hx : a.eval x = .slice sa m c) (hH : Has w sa m c ys)
    (hbytes : n + m ≤ 140737488355328) (hbase : base ≤ w.heap.size)
    (h : ∀ a' c' w', w'.ownsRow base 5 1 (.slice a' (n + m) c') (n + m) (cellsOf (xs ++ ys)) → Has w' a' (n + m) c' (xs ++ ys) → w.grownBy w' v.ownBlock → K (a.put o.dst (.slice a' (n + m) c')) w') :
    if Region.wanted o (yielded ops a.tmps) = true then Oper.wp P o a w K Q else E := by
  have hw : Region.wanted o (yielded ops a.tmps) = true := by simp [Region.wanted, hg]
  rw [if_pos hw]
  cases sa with
  | none =>
    obtain ⟨rfl, rfl⟩ := hH.nil rfl
    obtain rfl : ys = [] := List.eq_nil_of_length_eq_zero hH.len
    obtain ⟨a', c', rfl, hh⟩ := own_shape hown
    have hrun := run_append_owned_none (P := P) (w := w) base t o.type 5 i 1 ht hi _ n _ hown
    have := h a' c' w (by simpa using hown) (by simpa using hh) (World.grownBy.refl _ _)
    unfold Oper.wp
    simp [execOp, hop, resolve, invoke, builtin, hs, hx, hrun, Result.andThen]
    exact this
  | some ad =>
    obtain ⟨v', w', hrun, r1, r2, _⟩ := run_append_own (P := P) w base t o.type 5 i (.int .u8 0) 1 1 ht hi hz hsize hby rfl (by decide) v n _ hown ad m c (cellsOf ys) (by rw [cellsOf_length, hH.len, Nat.mul_one]) (hH.news ad rfl) (cellsOf_one ys) (by unfold maxLen; omega) (by omega) hbase
    rw [← cellsOf_append] at r1
    obtain ⟨a', c', rfl, hh⟩ := own_shape r1
    have := h a' c' w' r1 hh r2
    unfold Oper.wp
    simp [execOp, hop, resolve, invoke, builtin, hs, hx, hrun, Result.andThen]
    exact this
end Num
end Go.Proofs.YtjblmgdjaaeedaaGreat
