/- Instructions that may be have unlike bytes if they are unlike. -/
import Derived.Test.YtegamajcipgkhaaOpGetMath
namespace Go.Proofs.Ytegamajcipgkhaa
namespace Op4
open Num Kind
set_option linter.unusedVariables false

theorem toList_eq {s t : ByteArray} : s.toList = t.toList ↔ nums s = nums t := by
  rw [Lib.toList_data, Lib.toList_data]
  constructor
  · intro e
    unfold nums
    rw [e]
  · exact map_toNat_inj _ _
theorem putI_len (o a : Int) (c m : ByteArray) (hc : c.size ≤ 100) (hm : m.size ≤ 100) : 1 ≤ (putI o a c m).length ∧ (putI o a c m).length ≤ 300 := by
  have := enc_len o
  have := enc_len a
  have := encT_small c hc
  have := encT_small m hm
  unfold putI
  simp only [List.length_append]
  repeat' split
  all_goals ((try simp only [List.length_nil]); omega)
theorem putI_bytes (o a : Int) (c m : ByteArray) (ho : Is64 o) (ha : Is64 a) (hc : c.size ≤ 100) (hm : m.size ≤ 100) : Bytes (putI o a c m) := by
  have e : Bytes [] := fun x hx => by simp at hx
  unfold putI
  refine bytes_append (enc_bd o ho) (bytes_append ?_ (bytes_append ?_ ?_))
  · split
    · exact enc_bd a ha
    · exact e
  · split
    · exact encT_bytes c hc
    · exact e
  · split
    · exact encT_bytes m hm
    · exact e
theorem eqB_self (o a : Int) (c m : ByteArray) : eqB o a c m o a c m = true := by simp [eqB]
theorem put_eq (o a : Int) (c m : ByteArray) (o' a' : Int) (c' m' : ByteArray) (h : mayIns o a (nums c) (nums m) = true) (h' : mayIns o' a' (nums c') (nums m') = true)
    (ho : Is64 o) (ha : Is64 a) (hc : c.size ≤ 100) (hm : m.size ≤ 100) (ho' : Is64 o') (ha' : Is64 a') (hc' : c'.size ≤ 100) (hm' : m'.size ≤ 100) :
    ((strOfNums (putI o' a' c' m')).toList == (strOfNums (putI o a c m)).toList) = eqB o a c m o' a' c' m' := by
  have b := putI_bytes o a c m ho ha hc hm
  have b' := putI_bytes o' a' c' m' ho' ha' hc' hm'
  by_cases e : eqB o a c m o' a' c' m' = true
  · rw [e]
    simp only [eqB, decide_eq_true_eq] at e
    obtain ⟨rfl, rfl, e1, e2⟩ := e
    obtain rfl := nums_inj (toList_eq.1 e1)
    obtain rfl := nums_inj (toList_eq.1 e2)
    simp
  · rw [Bool.not_eq_true] at e
    rw [e, beq_eq_false_iff_ne]
    intro hl
    rw [toList_eq, nums_str b, nums_str b'] at hl
    have g := getI_put o a c m [] h ho ha hc hm
    have g' := getI_put o' a' c' m' [] h' ho' ha' hc' hm'
    rw [hl, g] at g'
    simp only [Prod.mk.injEq] at g'
    obtain ⟨⟨e1, e2, e3, e4⟩, _⟩ := g'
    simp only [eqB, decide_eq_false_iff_not] at e
    exact e ⟨e1, e2, toList_eq.2 e3, toList_eq.2 e4⟩
end Op4
end Go.Proofs.Ytegamajcipgkhaa
