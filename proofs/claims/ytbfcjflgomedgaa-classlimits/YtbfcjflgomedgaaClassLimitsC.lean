/- What the document says of the class that ClassLimits builds. -/
import Derived.Test.YtbfcjflgomedgaaClassLimitsB
namespace Go.Proofs.Ytbfcjflgomedgaa
namespace ClassLimits
open Num Kind Op4 Cls
open Go.RowKit
set_option linter.unusedVariables false
set_option maxRecDepth 100000

theorem lim_fields : ∀ n, n ≤ 10 → fieldsP ((List.range n).map limF) = decide (n ≤ 8) := by decide +kernel
theorem place_map {α β : Type} (p : β → Bool) (f : α → β) : ∀ (l : List α) (k : Nat), place p k (l.map f) = place (fun x => p (f x)) k l
  | [], _ => rfl
  | x :: r, k => by
    show (if p (f x) = true then (k : Int) else place p (k + 1) (r.map f)) = if p (f x) = true then (k : Int) else place (fun x => p (f x)) (k + 1) r
    rw [place_map p f r (k + 1)]
theorem lim_place : ∀ n, n ≤ 10 → ∀ i, i < n → place (fun k => (nmS 109 k).toList == (nmS 109 i).toList) 0 (List.range n) = (i : Int) := by decide +kernel
theorem lim_name : ∀ i, i < 10 → nameB (nums (nmS 109 i)) = true ∧ (nums (nmS 109 i) == initL) = false := by decide +kernel
theorem lim_params : ∀ n, n ≤ 8 → paramsP (List.replicate n ⟨#[73]⟩) = decide (n ≤ 6) := by decide +kernel
theorem lim_room : ∀ n, n ≤ 8 → roomP n true n 0 = true := by decide +kernel
theorem lim_one (n : Nat) (h : 1 ≤ n) : insB n oneI = true := by
  have e1 : mayIns 46 0 (nums ⟨#[]⟩) (nums ⟨#[]⟩) = true := by decide +kernel
  have e2 : jumpsB 46 = false := by decide +kernel
  unfold insB oneI
  simp only [e1, e2]
  rfl
theorem lim_code (n : Nat) (h : 1 ≤ n) : codeP (List.replicate n oneI) = decide (n ≤ 100) := by
  have e1 : (List.replicate n oneI).all (insB n) = true := by
    rw [List.all_eq_true]
    intro x hx
    rw [List.eq_of_mem_replicate hx]
    exact lim_one n h
  have e2 : ((List.replicate n oneI).getLast?.any fun x => endsB x.o) = true := by
    rw [List.getLast?_replicate, if_neg (by omega)]
    show endsB 46 = true
    decide +kernel
  unfold codeP
  rw [List.length_replicate, e1, e2]
  unfold withinB
  rw [Bool.eq_iff_iff]
  simp
  omega
theorem lim_trap (n : Nat) (h : 1 ≤ n) : trapP n limT = true := by
  have e1 : (nums limT.c == []) = true := by decide +kernel
  unfold trapP withinB
  rw [e1, Bool.true_or]
  show (decide ((0 : Int) ≤ 0) && (decide ((0 : Int) < 1) && (decide ((1 : Int) ≤ (n : Int)) && ((decide ((0 : Int) ≤ 0) && decide ((0 : Int) ≤ (n : Int) - 1)) && true)))) = true
  have a1 : (1 : Int) ≤ (n : Int) := by omega
  have a2 : (0 : Int) ≤ (n : Int) - 1 := by omega
  rw [decide_eq_true a1, decide_eq_true a2]
  rfl
theorem lim_traps (n k : Nat) (h : 1 ≤ n) : trapsP n (List.replicate k limT) = decide (k ≤ 6) := by
  have e1 : (List.replicate k limT).all (trapP n) = true := by
    rw [List.all_eq_true]
    intro x hx
    rw [List.eq_of_mem_replicate hx]
    exact lim_trap n h
  unfold trapsP
  rw [List.length_replicate, e1, Bool.and_true]
theorem lim_meth (np nc nt i : Nat) (hp : np ≤ 8) (hc : 1 ≤ nc) (hi : i < 10) : methP (limM np nc nt i) = (decide (np ≤ 6) && (decide (nc ≤ 100) && decide (nt ≤ 6))) := by
  have c2 : retB (nums ⟨#[86]⟩) = true := by decide +kernel
  unfold methP
  show (nameB (nums (nmS 109 i)) && (paramsP (List.replicate np ⟨#[73]⟩) && retB (nums ⟨#[86]⟩)) && (if false = true then _ else if ((nums (nmS 109 i) == initL) && _) = true then false else roomP (List.replicate np (⟨#[73]⟩ : ByteArray)).length true np 0 && (codeP (List.replicate nc oneI) && (trapsP (List.replicate nc oneI).length (List.replicate nt limT) && (decide (([] : List MapL).length ≤ 100) && mapsP _ _ _ 0 []))))) = _
  rw [(lim_name i hi).1, (lim_name i hi).2, lim_params np hp, c2, List.length_replicate, lim_room np hp, lim_code nc hc, List.length_replicate, lim_traps nc nt hc]
  cases decide (np ≤ 6) <;> simp [mapsP]
theorem allI_same {α : Type} (p : Nat → α → Bool) (q : Bool) : ∀ (l : List α) (k : Nat), (∀ i (h : i < l.length), p (k + i) l[i] = q) → allI p k l = (decide (l.length = 0) || q)
  | [], _, _ => rfl
  | x :: r, k, h => by
    have h0 := h 0 (by simp)
    have h1 := allI_same p q r (k + 1) (fun i hi => by
      have := h (i + 1) (by simpa using hi)
      rw [show k + 1 + i = k + (i + 1) by omega]
      exact this)
    show (p k x && allI p (k + 1) r) = _
    rw [h1]
    simp only [Nat.add_zero, List.getElem_cons_zero] at h0
    rw [h0]
    cases q <;> simp
theorem lim_meths (nm np nc nt : Nat) (hm : nm ≤ 10) (hp : np ≤ 8) (hc : 1 ≤ nc) :
    methsP ((List.range nm).map (limM np nc nt)) = (decide (nm ≤ 8) && (decide (nm = 0) || (decide (np ≤ 6) && (decide (nc ≤ 100) && decide (nt ≤ 6))))) := by
  unfold methsP
  rw [allI_same _ (decide (np ≤ 6) && (decide (nc ≤ 100) && decide (nt ≤ 6)))]
  · simp
  · intro i hi
    have hi' : i < nm := by simpa using hi
    have e1 : ((List.range nm).map (limM np nc nt))[i] = limM np nc nt i := by simp
    have e2 : mplace ((List.range nm).map (limM np nc nt)) (limM np nc nt i).name = (i : Int) := by
      unfold mplace
      rw [place_map]
      exact lim_place nm hm i hi'
    simp only [e1, e2, Nat.zero_add]
    rw [lim_meth np nc nt i hp hc (by omega)]
    simp
theorem lim_may (nf nm np nc nt : Nat) (hf : nf ≤ 10) (hm : nm ≤ 10) (hp : np ≤ 8) (hc : 1 ≤ nc) :
    mayP (limL nf nm np nc nt) = (decide (nf ≤ 8) && (decide (nm ≤ 8) && (decide (nm = 0) || (decide (np ≤ 6) && (decide (nc ≤ 100) && decide (nt ≤ 6)))))) := by
  unfold mayP
  have e3 : classB (nums (limL nf nm np nc nt).name) = true := by show classB (nums ⟨#[65, 98]⟩) = true; decide +kernel
  have e4 : classB (nums (limL nf nm np nc nt).super) = true := by show classB (nums ⟨#[79, 98, 106, 101, 99, 116]⟩) = true; decide +kernel
  have e5 : implP (limL nf nm np nc nt).impl = true := by show implP [] = true; decide +kernel
  have e6 : keepsP (limL nf nm np nc nt) = true := by
    unfold keepsP
    show (!(false && _) && ((List.range nm).map (limM np nc nt)).all fun m => m.abstract == false) = true
    rw [Bool.false_and, Bool.not_false, Bool.true_and, List.all_eq_true]
    intro x hx
    obtain ⟨i, _, rfl⟩ := List.mem_map.1 hx
    rfl
  have e1 : fieldsP (limL nf nm np nc nt).fields = decide (nf ≤ 8) := lim_fields nf hf
  have e2 : methsP (limL nf nm np nc nt).methods = _ := lim_meths nm np nc nt hm hp hc
  rw [e1, e2, e3, e4, e5, e6]
  simp
end ClassLimits
end Go.Proofs.Ytbfcjflgomedgaa
