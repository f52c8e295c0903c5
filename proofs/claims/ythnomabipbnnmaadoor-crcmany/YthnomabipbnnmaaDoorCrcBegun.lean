/- The contract of the sums' laws' own 'begun'. -/
import Derived.Test.YthnomabipbnnmaaDoorCrcCode
import Derived.Test.YthnomabipbnnmaaDoorLibShort
namespace Go.Proofs.YthnomabipbnnmaaDoor
namespace Crc
open Num
open Go.RowKit
set_option linter.unusedVariables false

theorem digits : sum (nats [49, 50, 51, 52, 53, 54, 55, 56, 57]) = 3421780262 := by decide +kernel
set_option maxHeartbeats 400000 in
theorem begun_any (w : World) (T : Tab w := by assumption) : Calls Tryd.prog 8 #[] w fun e w' => e = .returned (.bool true) ∧ Below w.heap.size w w' := by
  have hb : (w.alloc (.cells (cellsOf [49, 50, 51, 52, 53, 54, 55, 56, 57]).toArray 5)).heap[w.heap.size]? = some (.cells (cellsOf [49, 50, 51, 52, 53, 54, 55, 56, 57]).toArray 5 (0, 0)) := heap_alloc_new w _
  have hcv := conv_mark _ w.heap.size 9 9 _ _ hb
  obtain ⟨fr, hbf⟩ := freeze_block _ w.heap.size (cellsOf [49, 50, 51, 52, 53, 54, 55, 56, 57]).toArray.size _ _ hb
  have b0 := ((Below.refl w.heap.size w).alloc (Nat.le_refl _) (.cells (cellsOf [49, 50, 51, 52, 53, 54, 55, 56, 57]).toArray 5)).trans (freeze_below w.heap.size _ w.heap.size (cellsOf [49, 50, 51, 52, 53, 54, 55, 56, 57]).toArray.size (Nat.le_refl _))
  have T1 := T.later b0
  have hh := Has.block hbf (by simp [maxLen])
  generalize hF : (w.alloc (.cells (cellsOf [49, 50, 51, 52, 53, 54, 55, 56, 57]).toArray 5)).freeze ⟨w.heap.size, (cellsOf [49, 50, 51, 52, 53, 54, 55, 56, 57]).toArray.size, none⟩ 1 = F at *
  clear hF hb hbf
  change Sem.run Tryd.prog (convert 22 22 (.slice (some ⟨w.heap.size, 0, none⟩) 9 9)) (w.alloc (.cells #[.int .u8 49, .int .u8 50, .int .u8 51, .int .u8 52, .int .u8 53, .int .u8 54, .int .u8 55, .int .u8 56, .int .u8 57] 5)) = .ok (.slice (some ⟨w.heap.size, 0, none⟩) 9 9) F at hcv
  go_enter Tryd.func8, Tryd.ntmps8
  go_wp2_with fail
  refine (sum_any _ 9 9 [49, 50, 51, 52, 53, 54, 55, 56, 57] _ hh (by intro x hx; simp at hx; omega)).mono ?_
  rintro e w1 ⟨rfl, rfl⟩
  rw [digits]
  clear hcv hh
  go_wp2_with fail
  refine (sum_any none 0 0 [] _ (Has.none _) (by intro x hx; simp at hx)).mono ?_
  rintro e w2 ⟨rfl, rfl⟩
  rw [show sum (nats []) = 0 from rfl]
  go_wp2_with fail
  go_ret
  exact ⟨rfl, b0⟩
end Crc
end Go.Proofs.YthnomabipbnnmaaDoor
