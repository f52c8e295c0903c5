/- A class that may be has short texts, few parts, numbers that fit. -/
import Derived.Test.YtjblmgdjaaeedaaGreatFilSpec
namespace Go.Proofs.YtjblmgdjaaeedaaGreat
namespace Fil
open Num Kind Op4 Cls
set_option linter.unusedVariables false
set_option maxRecDepth 100000

theorem okT_class {s : ByteArray} (h : classB (nums s) = true) : okT s := by
  unfold classB at h
  simp only [Bool.and_eq_true, decide_eq_true_eq] at h
  have := nums_length s
  unfold okT
  omega
theorem strip_len : ∀ (n : Nat) (l : List Int), l.length ≤ (strip n l).length + n
  | 0, l => Nat.le_refl _
  | n + 1, [] => Nat.zero_le _
  | n + 1, x :: r => by
    unfold strip
    split
    · have := strip_len n r
      simp
      omega
    · simp
theorem okT_len {s : ByteArray} {l : List Int} (h : (nums s == l) = true) (hl : l.length ≤ 100) : okT s := by
  have e : nums s = l := by simpa using h
  have := nums_length s
  rw [e] at this
  unfold okT
  omega
theorem okT_may {s : ByteArray} (h : mayB (nums s) = true) : okT s := by
  unfold mayB at h
  have h1 := strip_len 2 (nums s)
  have h2 := nums_length s
  unfold okT
  simp only [Bool.or_eq_true] at h
  rcases h with h | h
  · have e : strip 2 (nums s) = [73] := by simpa using h
    rw [e] at h1
    simp at h1
    omega
  · unfold classB at h
    simp only [Bool.and_eq_true, decide_eq_true_eq] at h
    omega
theorem okT_ref {s : ByteArray} (h : refB (nums s) = true) : okT s := by
  unfold refB at h
  simp only [Bool.and_eq_true] at h
  exact okT_may h.2
theorem okT_name {s : ByteArray} (h : nameB (nums s) = true) : okT s := by
  unfold nameB at h
  simp only [Bool.or_eq_true, Bool.and_eq_true, decide_eq_true_eq] at h
  rcases h with h | h
  · exact okT_len h (by decide)
  · have := nums_length s
    unfold okT
    omega
theorem okT_ret {s : ByteArray} (h : retB (nums s) = true) : okT s := by
  unfold retB at h
  simp only [Bool.or_eq_true] at h
  rcases h with h | h
  · exact okT_len h (by decide)
  · exact okT_may h
theorem okI_may {n : Nat} {x : InsL} (h : insB n x = true) : okI x := by
  unfold insB at h
  simp only [Bool.and_eq_true] at h
  have h := h.1
  unfold mayIns at h
  split at h
  · cases h
  · next h0 =>
    split at h
    · cases h
    · next h1 =>
      split at h
      · cases h
      · next h2 =>
        refine ⟨by unfold Is64; omega, ?_, ?_, ?_⟩
        · unfold numberB at h1
          unfold Is64
          cases hp : (partsF x.o).1 <;> simp [hp] at h1
          · omega
          · split at h1
            · simp at h1; omega
            · split at h1 <;> simp at h1 <;> omega
        · rcases kinds x.o with ⟨_, e⟩ | ⟨_, e⟩ | ⟨_, e⟩ | ⟨_, e⟩ | ⟨_, e⟩ <;> rw [e] at h2 <;> simp at h2
          · exact okT_len (l := []) (by simp [h2]) (by decide)
          · exact okT_class h2
          · exact okT_class h2
          · exact okT_ref h2
          · exact okT_len (l := []) (by simp [h2]) (by decide)
        · split at h
          · simp only [Bool.and_eq_true] at h
            exact okT_name h.1
          · exact okT_len h (by decide)
theorem okX_may {lo st : Int} {x : MapL} (h : standB lo st x = true) (hlo : lo ≤ 16) (hst : st ≤ 16) (ha : Is64 x.at') : okX x := by
  unfold standB at h
  simp only [Bool.and_eq_true, decide_eq_true_eq, List.all_eq_true] at h
  obtain ⟨⟨h1, h2⟩, h3, h4⟩ := h
  have hv : ∀ t, valueB t = true → okT t := fun t ht => by
    unfold valueB at ht
    simp only [Bool.or_eq_true] at ht
    rcases ht with ht | ht | ht
    · exact okT_len ht (by decide)
    · exact okT_len ht (by decide)
    · exact okT_ref ht
  refine ⟨ha, by omega, by omega, fun t ht => ?_, fun t ht => hv t (h4 t ht)⟩
  have := h3 t ht
  unfold locB at this
  simp only [Bool.or_eq_true] at this
  rcases this with h | h
  · exact okT_len h (by decide)
  · exact hv t h
theorem okX_maps {n : Nat} {lo st : Int} (hlo : lo ≤ 16) (hst : st ≤ 16) (hn : n ≤ 100) : ∀ (l : List MapL) (least : Int), 0 ≤ least → mapsP n lo st least l = true → ∀ x ∈ l, okX x
  | [], _, _, _, x, hx => by cases hx
  | y :: r, least, hl, h, x, hx => by
    unfold mapsP at h
    simp only [Bool.and_eq_true] at h
    obtain ⟨⟨h1, h2⟩, h3⟩ := h
    unfold withinB at h1
    simp only [Bool.and_eq_true, decide_eq_true_eq] at h1
    rcases List.mem_cons.1 hx with rfl | hx
    · exact okX_may h2 hlo hst (by unfold Is64; omega)
    · exact okX_maps hlo hst hn r _ (by omega) h3 x hx
theorem okR_may {n : Int} {t : TrapL} (hn : n ≤ 100) (h : trapP n t = true) : okR t := by
  unfold trapP withinB at h
  simp only [Bool.and_eq_true, Bool.or_eq_true, decide_eq_true_eq] at h
  refine ⟨by unfold Is64; omega, by unfold Is64; omega, by unfold Is64; omega, ?_⟩
  rcases h.2.2.2.2 with h | h
  · exact okT_len h (by decide)
  · exact okT_class h
theorem okM_may {m : MethL} (h : methP m = true) : okM m := by
  unfold methP paramsP at h
  simp only [Bool.and_eq_true, decide_eq_true_eq, List.all_eq_true] at h
  obtain ⟨⟨h1, ⟨h2, h3⟩, h4⟩, h5⟩ := h
  have hps : m.params.length ≤ 1000 ∧ ∀ t ∈ m.params, okT t := ⟨by omega, fun t ht => okT_may (h3 t ht)⟩
  split at h5
  · unfold bodilessP at h5
    simp only [Bool.and_eq_true, decide_eq_true_eq] at h5
    obtain ⟨_, _, e1, e2, e3, e4, e5⟩ := h5
    have f1 := List.eq_nil_of_length_eq_zero e3
    have f2 := List.eq_nil_of_length_eq_zero e4
    have f3 := List.eq_nil_of_length_eq_zero e5
    refine ⟨okT_name h1, okT_ret h4, by rw [e1]; unfold Is64; omega, by rw [e2]; unfold Is64; omega, hps, ?_, ?_, ?_⟩
    · rw [f1]; exact ⟨by simp, fun x hx => by cases hx⟩
    · rw [f2]; exact ⟨by simp, fun x hx => by cases hx⟩
    · rw [f3]; exact ⟨by simp, fun x hx => by cases hx⟩
  · split at h5
    · cases h5
    · unfold roomP codeP trapsP withinB at h5
      simp only [Bool.and_eq_true, decide_eq_true_eq, List.all_eq_true] at h5
      obtain ⟨⟨⟨r1, r2⟩, r3, r4⟩, ⟨⟨c1, c2⟩, c3, c4⟩, ⟨t1, t2⟩, m1, m2⟩ := h5
      have hr : 0 ≤ m.locals := by split at r1 <;> omega
      refine ⟨okT_name h1, okT_ret h4, by unfold Is64; omega, by unfold Is64; omega, hps, ⟨by omega, fun x hx => okI_may (c3 x hx)⟩, ⟨by omega, ?_⟩, ⟨by omega, fun x hx => okR_may (by omega) (t2 x hx)⟩⟩
      exact okX_maps (by omega) (by omega) (by omega) m.maps 0 (by omega) m2
theorem allI_all {α : Type} {p : Nat → α → Bool} {q : α → Prop} (hpq : ∀ k x, p k x = true → q x) : ∀ (l : List α) (i : Nat), allI p i l = true → ∀ x ∈ l, q x
  | [], _, _, x, hx => by cases hx
  | y :: r, i, h, x, hx => by
    unfold allI at h
    simp only [Bool.and_eq_true] at h
    rcases List.mem_cons.1 hx with rfl | hx
    · exact hpq i x h.1
    · exact allI_all hpq r (i + 1) h.2 x hx
theorem may_ok {c : ClsL} (h : mayP c = true) : okC c := by
  unfold mayP implP fieldsP methsP at h
  simp only [Bool.and_eq_true, decide_eq_true_eq] at h
  obtain ⟨h1, h2, ⟨i1, i2⟩, ⟨f1, f2⟩, ⟨m1, m2⟩, _⟩ := h
  refine ⟨okT_class h1, okT_class h2, ⟨by omega, allI_all (fun k x hx => ?_) _ _ i2⟩, ⟨by omega, allI_all (fun k x hx => ?_) _ _ f2⟩, ⟨by omega, allI_all (fun k x hx => ?_) _ _ m2⟩⟩
  · simp only [Bool.and_eq_true] at hx
    exact okT_class hx.1
  · unfold fieldB at hx
    simp only [Bool.and_eq_true] at hx
    exact ⟨okT_name hx.1.2.1, okT_may hx.1.2.2⟩
  · simp only [Bool.and_eq_true] at hx
    exact okM_may hx.1
theorem may_fits {c : ClsL} (h : mayP c = true) : (∀ t ∈ (wC c ⟨[], []⟩).pool, okT t) ∧ (wC c ⟨[], []⟩).out.length ≤ 100000000000 ∧ (wC c ⟨[], []⟩).pool.length ≤ 100000000000 := by
  obtain ⟨a, b, d⟩ := whole_ok c (may_ok h)
  exact ⟨a, by omega, by omega⟩
end Fil
end Go.Proofs.YtjblmgdjaaeedaaGreat
