/- The laws' Short and Cut; 'append' of whatever bytes onto nil or onto an owned row. -/
import Derived.Test.YtjblmgdjaaeedaaGreatLibRef
namespace Go.Proofs.YtjblmgdjaaeedaaGreat
namespace Num
open Go.RowKit
set_option linter.unusedVariables false
set_option maxRecDepth 100000

theorem getText_enc (t : ByteArray) (R : List Int) (ht : t.size ≤ 100) : getText (encT t ++ R) = (nums t, ((encT t).length : Int), 0) := by
  have h64 : Is64 t.size := by unfold Is64; omega
  have hl := encT_length t
  have hn := nums_length t
  have g := get_enc t.size (nums t ++ R) h64
  have e : encT t ++ R = enc t.size ++ (nums t ++ R) := by simp [encT]
  unfold getText
  rw [e, g, if_neg (fun h => h rfl), if_neg (by omega), if_neg]
  · simp only [Int.toNat_natCast, List.drop_left, Prod.mk.injEq, and_true]
    refine ⟨?_, by omega⟩
    rw [← hn, List.take_left]
  · simp only [List.length_append]
    omega
theorem encT_bytes (t : ByteArray) (ht : t.size ≤ 100) : Bytes (encT t) := bytes_append (enc_bd t.size (by unfold Is64; omega)) (nums_bytes t)
end Num
end Go.Proofs.YtjblmgdjaaeedaaGreat
