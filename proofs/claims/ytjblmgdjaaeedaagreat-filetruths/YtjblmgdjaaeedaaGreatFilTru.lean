/- Classes of which each field's truth is turned (no program in it); what was cut, cut again. -/
import Derived.Test.YtjblmgdjaaeedaaGreatFilCutC
import Derived.Test.YtjblmgdjaaeedaaGreatFilMay
import Derived.Test.YtjblmgdjaaeedaaGreatFilWhole
namespace Go.Proofs.YtjblmgdjaaeedaaGreat
namespace Fil
open Num Kind Op4 Cls
set_option linter.unusedVariables false

def flipF (f : FieldL) : FieldL := ⟨f.name, f.type, !f.static⟩
def flipC (c : ClsL) : ClsL := ⟨c.name, c.super, c.iface, c.impl, c.fields.map flipF, c.methods⟩
theorem fplace_flip (n : ByteArray) : ∀ (k : Nat) (F : List FieldL), place (fun f : FieldL => f.name.toList == n.toList) k (F.map flipF) = place (fun f : FieldL => f.name.toList == n.toList) k F
  | _, [] => rfl
  | k, x :: r => by
    rw [List.map_cons]
    unfold place
    rw [fplace_flip n (k + 1) r]
    rfl
theorem allI_flip (F : List FieldL) : ∀ (k : Nat) (l : List FieldL), allI (fun k f => fieldB f && (fplace (F.map flipF) f.name == (k : Int))) k (l.map flipF) = allI (fun k f => fieldB f && (fplace F f.name == (k : Int))) k l
  | _, [] => rfl
  | k, x :: r => by
    rw [List.map_cons]
    unfold allI
    rw [allI_flip F (k + 1) r]
    unfold fplace
    rw [fplace_flip]
    rfl
theorem may_flip (c : ClsL) : mayP (flipC c) = mayP c := by
  unfold mayP
  have h1 : fieldsP (flipC c).fields = fieldsP c.fields := by
    unfold fieldsP flipC
    rw [allI_flip, List.length_map]
  have h2 : keepsP (flipC c) = keepsP c := by
    unfold keepsP flipC
    simp only [List.length_map]
  rw [h1, h2]
  rfl
/-- The same texts, as many bytes. -/
def Alk (s t : WS) : Prop := s.pool = t.pool ∧ s.out.length = t.out.length
theorem Alk.refl (s : WS) : Alk s s := ⟨rfl, rfl⟩
theorem alk_n (n : Int) {s t : WS} (h : Alk s t) : Alk (wN n s) (wN n t) := ⟨h.1, by simp only [wN, List.length_append, h.2]⟩
theorem alk_b (b : Bool) {s t : WS} (h : Alk s t) : Alk (wB b s) (wB b t) := alk_n _ h
theorem alk_t (x : ByteArray) {s t : WS} (h : Alk s t) : Alk (wT x s) (wT x t) := by
  obtain ⟨h1, h2⟩ := h
  unfold wT Alk
  simp only [h1, List.length_append, h2, and_self]
theorem alk_fold {α : Type} (f : α → WS → WS) (hf : ∀ x s t, Alk s t → Alk (f x s) (f x t)) : ∀ (l : List α) (s t : WS), Alk s t → Alk (l.foldl (fun s x => f x s) s) (l.foldl (fun s x => f x s) t)
  | [], _, _, h => h
  | x :: r, s, t, h => alk_fold f hf r _ _ (hf x s t h)
theorem alk_l {α : Type} (f : α → WS → WS) (hf : ∀ x s t, Alk s t → Alk (f x s) (f x t)) (l : List α) {s t : WS} (h : Alk s t) : Alk (wL f l s) (wL f l t) := alk_fold f hf l _ _ (alk_n _ h)
theorem alk_i (x : InsL) (s t : WS) (h : Alk s t) : Alk (wI x s) (wI x t) := alk_t _ (alk_t _ (alk_n _ (alk_n _ h)))
theorem alk_x (x : MapL) (s t : WS) (h : Alk s t) : Alk (wX x s) (wX x t) := alk_l wT (fun x s t h => alk_t x h) _ (alk_l wT (fun x s t h => alk_t x h) _ (alk_n _ h))
theorem alk_r (x : TrapL) (s t : WS) (h : Alk s t) : Alk (wR x s) (wR x t) := alk_t _ (alk_n _ (alk_n _ (alk_n _ h)))
theorem alk_m (x : MethL) (s t : WS) (h : Alk s t) : Alk (wM x s) (wM x t) :=
  alk_l wR alk_r _ (alk_l wX alk_x _ (alk_l wI alk_i _ (alk_n _ (alk_n _ (alk_b _ (alk_b _ (alk_t _ (alk_l wT (fun x s t h => alk_t x h) _ (alk_t _ h)))))))))
theorem enc_bit (b : Bool) : (enc (if b then 1 else 0)).length = 1 := by cases b <;> decide +kernel
theorem alk_flip (f : FieldL) {s t : WS} (h : Alk s t) : Alk (wF f s) (wF (flipF f) t) := by
  have h1 := alk_t f.type (alk_t f.name h)
  refine ⟨h1.1, ?_⟩
  show (_ ++ enc (if f.static then 1 else 0)).length = (_ ++ enc (if (!f.static) then 1 else 0)).length
  rw [List.length_append, List.length_append, enc_bit, enc_bit]
  exact congrArg (· + 1) h1.2
theorem alk_flips : ∀ (l : List FieldL) (s t : WS), Alk s t → Alk (l.foldl (fun s x => wF x s) s) ((l.map flipF).foldl (fun s x => wF x s) t)
  | [], _, _, h => h
  | x :: r, s, t, h => alk_flips r _ _ (alk_flip x h)
theorem len_flip (c : ClsL) : (bytesL (flipC c)).length = (bytesL c).length := by
  have h0 : Alk (wL wF c.fields (wL wT c.impl (wB c.iface (wT c.super (wT c.name ⟨[], []⟩))))) (wL wF (c.fields.map flipF) (wL wT c.impl (wB c.iface (wT c.super (wT c.name ⟨[], []⟩))))) := by
    have e : (c.fields.map flipF).length = c.fields.length := List.length_map _
    unfold wL
    rw [e]
    exact alk_flips c.fields _ _ (Alk.refl _)
  have h := alk_l wM alk_m c.methods h0
  unfold bytesL whole
  have h1 : (wC (flipC c) ⟨[], []⟩).pool = (wC c ⟨[], []⟩).pool := h.1.symm
  have h2 : (wC (flipC c) ⟨[], []⟩).out.length = (wC c ⟨[], []⟩).out.length := h.2.symm
  simp only [List.length_append, h1, h2]
theorem flip_ne {c : ClsL} (hm : mayP c = true) (h : bytesL c = bytesL (flipC c)) : c.fields = [] := by
  have e := bytes_inj c (flipC c) (may_ok hm) (may_ok (by rw [may_flip]; exact hm)) h
  have e1 : c.fields = c.fields.map flipF := congrArg ClsL.fields e
  cases hf : c.fields with
  | nil => rfl
  | cons x r =>
    rw [hf, List.map_cons] at e1
    have e2 := congrArg FieldL.static (List.cons.inj e1).1
    simp [flipF] at e2
theorem flip_nil {c : ClsL} (h : c.fields = []) : flipC c = c := by
  obtain ⟨nm, su, fa, im, fs, ms⟩ := c
  simp only at h
  subst h
  rfl
theorem enc_flip_len (c : ClsL) : (encodeL (flipC c)).length = (encodeL c).length := by
  unfold encodeL
  rw [may_flip, len_flip]
  by_cases h : mayP c = true ∧ (bytesL c).length ≤ 6000
  · rw [if_pos h, if_pos h]
    exact len_flip c
  · rw [if_neg h, if_neg h]
/-- The two texts are one just if there is no field, or nothing was written. -/
theorem enc_flip (c : ClsL) : encodeL c = encodeL (flipC c) ↔ (c.fields.length = 0 ∨ (encodeL c).length = 0) := by
  constructor
  · intro h
    by_cases hz : (encodeL c).length = 0
    · exact .inr hz
    · left
      unfold encodeL at h hz
      rw [may_flip, len_flip] at h
      by_cases hc : mayP c = true ∧ (bytesL c).length ≤ 6000
      · rw [if_pos hc, if_pos hc] at h
        rw [flip_ne hc.1 h]
        rfl
      · rw [if_neg hc] at hz
        exact absurd rfl hz
  · rintro (h | h)
    · rw [flip_nil (List.eq_nil_of_length_eq_zero h)]
    · rw [List.eq_nil_of_length_eq_zero h, List.eq_nil_of_length_eq_zero ((enc_flip_len c).trans h)]
/-! What was cut, cut again. -/
theorem cutS_twice (s : ByteArray) (n : Nat) : cutS (cutS s n) n = cutS s n := by
  have h := cutS_size s n
  generalize cutS s n = t at h
  unfold cutS
  rw [if_neg (by omega)]
theorem cutTs_twice (n : Nat) (l : List ByteArray) : cutTs n (cutTs n l) = cutTs n l := by
  unfold cutTs
  rw [← List.map_take, List.map_map, List.take_take, Nat.min_self]
  exact List.map_congr_left fun x _ => cutS_twice x 12
theorem map_twice {α : Type} (f : α → α) (hf : ∀ x, f (f x) = f x) (n : Nat) (l : List α) : (((l.take n).map f).take n).map f = (l.take n).map f := by
  rw [← List.map_take, List.map_map, List.take_take, Nat.min_self]
  exact List.map_congr_left fun x _ => hf x
theorem cutC_twice (c : ClsL) : cutC (cutC c) = cutC c := by
  have hI : ∀ x, cutI (cutI x) = cutI x := fun x => by simp only [cutI, cutS_twice]
  have hX : ∀ x, cutX (cutX x) = cutX x := fun x => by simp only [cutX, cutTs_twice]
  have hR : ∀ x, cutR (cutR x) = cutR x := fun x => by simp only [cutR, cutS_twice]
  have hM : ∀ x, cutM (cutM x) = cutM x := fun x => by simp only [cutM, cutS_twice, cutTs_twice, map_twice cutI hI, map_twice cutX hX, map_twice cutR hR]
  have hF : ∀ x, cutF (cutF x) = cutF x := fun x => by simp only [cutF, cutS_twice]
  simp only [cutC, cutS_twice, cutTs_twice, map_twice cutF hF, map_twice cutM hM]
end Fil
end Go.Proofs.YtjblmgdjaaeedaaGreat
