/- What ClassNames builds, and what the document says of it. -/
import Derived.Test.YtbfcjflgomedgaaClsBegun
namespace Go.Proofs.Ytbfcjflgomedgaa
namespace Cls
open Num Kind Op4
open Go.RowKit
set_option linter.unusedVariables false
set_option maxRecDepth 100000

def namM (n : ByteArray) : MethL := ⟨n, [], ⟨#[86]⟩, true, false, 0, 0, [oneI], [], []⟩
def namL (a b c : ByteArray) : ClsL := ⟨⟨#[65, 98]⟩, ⟨#[79, 98, 106, 101, 99, 116]⟩, false, [], [⟨a, ⟨#[73]⟩, false⟩, ⟨b, ⟨#[73]⟩, false⟩], [namM c, namM a]⟩
theorem namM_may (n : ByteArray) (h : nameB (nums n) = true) (hi : (nums n == initL) = false) : methP (namM n) = true := by
  have c1 : paramsP [] = true := by decide +kernel
  have c2 : retB (nums ⟨#[86]⟩) = true := by decide +kernel
  have c3 : roomP 0 true 0 0 = true := by decide +kernel
  have c4 : codeP [oneI] = true := by decide +kernel
  have c5 : trapsP ((1 : Nat) : Int) [] = true := by decide +kernel
  have c6 : mapsP 1 0 0 0 [] = true := rfl
  unfold methP namM
  simp [h, hi, c1, c2, c3, c4, c6]
  exact c5
theorem namF_may (n : ByteArray) (h : nameB (nums n) = true) (hi : (nums n == initL) = false) : fieldB ⟨n, ⟨#[73]⟩, false⟩ = true := by
  have c1 : mayB (nums ⟨#[73]⟩) = true := by decide +kernel
  unfold fieldB
  simp [h, hi, c1]
theorem nam_f0 (a b c : ByteArray) : fplace (namL a b c).fields a = 0 := by
  simp [namL, fplace, place]
theorem nam_f1 (a b c : ByteArray) : fplace (namL a b c).fields b = if (a.toList == b.toList) = true then 0 else 1 := by
  simp [namL, fplace, place]
theorem nam_m0 (a b c : ByteArray) : mplace (namL a b c).methods c = 0 := by
  simp [namL, mplace, place, namM]
theorem nam_m1 (a b c : ByteArray) : mplace (namL a b c).methods a = if (c.toList == a.toList) = true then 0 else 1 := by
  simp [namL, mplace, place, namM]
theorem nam_may (a b c : ByteArray) (ha : nameB (nums a) = true) (hb : nameB (nums b) = true) (hc : nameB (nums c) = true) (ia : (nums a == initL) = false) (ib : (nums b == initL) = false) (ic : (nums c == initL) = false) :
    mayP (namL a b c) = (!(a.toList == b.toList) && !(c.toList == a.toList)) := by
  have f0 := nam_f0 a b c
  have f1 := nam_f1 a b c
  have g0 := nam_m0 a b c
  have g1 := nam_m1 a b c
  have e1 : fieldsP (namL a b c).fields = !(a.toList == b.toList) := by
    unfold fieldsP
    show (true && ((fieldB ⟨a, ⟨#[73]⟩, false⟩ && (fplace (namL a b c).fields a == ((0 : Nat) : Int))) && ((fieldB ⟨b, ⟨#[73]⟩, false⟩ && (fplace (namL a b c).fields b == ((0 + 1 : Nat) : Int))) && true))) = _
    rw [f0, f1, namF_may a ha ia, namF_may b hb ib]
    cases (a.toList == b.toList) <;> rfl
  have e2 : methsP (namL a b c).methods = !(c.toList == a.toList) := by
    unfold methsP
    show (true && ((methP (namM c) && (mplace (namL a b c).methods c == ((0 : Nat) : Int))) && ((methP (namM a) && (mplace (namL a b c).methods a == ((0 + 1 : Nat) : Int))) && true))) = _
    rw [g0, g1, namM_may c hc ic, namM_may a ha ia]
    cases (c.toList == a.toList) <;> rfl
  unfold mayP
  rw [e1, e2]
  have e3 : classB (nums (namL a b c).name) = true := by show classB (nums ⟨#[65, 98]⟩) = true; decide +kernel
  have e4 : classB (nums (namL a b c).super) = true := by show classB (nums ⟨#[79, 98, 106, 101, 99, 116]⟩) = true; decide +kernel
  have e5 : implP (namL a b c).impl = true := by show implP [] = true; decide +kernel
  have e6 : keepsP (namL a b c) = true := by rfl
  rw [e3, e4, e5, e6]
  simp
theorem Sl.two {α : Type} {E : World → Nat → Nat → α → Prop} {size : Nat} {w : World} {b : Nat} {x y : α} (hb : b < w.heap.size) (h : E w b 0 x) (h' : E w b size y) : Sl E size w (.slice (some ⟨b, 0, Option.none⟩) 2 2) [x, y] := by
  refine ⟨_, 2, rfl, Nat.le_refl _, by unfold maxLen; omega, fun e => (by cases e), fun _ => ⟨b, 0, rfl, hb, fun i hi => ?_⟩⟩
  have hi2 : i < 2 := by simpa using hi
  rcases Nat.eq_zero_or_pos i with rfl | h0
  · simpa using h
  · obtain rfl : i = 1 := by omega
    simpa using h'
def namB (w : World) : Array Value := #[.string ⟨#[65, 98]⟩, .string ⟨#[79, 98, 106, 101, 99, 116]⟩, .bool false, .slice none 0 0, .slice (some ⟨w.heap.size + 1 + 1 + 1 + 1 + 1, 0, none⟩) 2 2, .slice (some ⟨w.heap.size + 1 + 1 + 1 + 1 + 1 + 1 + 1 + 1, 0, none⟩) 2 2]
def namF (a b : ByteArray) : Array Value := #[.string a, .string ⟨#[73]⟩, .bool false, .string b, .string ⟨#[73]⟩, .bool false]
def namMc (w : World) (n : ByteArray) : Array Value := #[.string n, .slice none 0 0, .string ⟨#[86]⟩, .bool true, .bool false, .int .i64 0, .int .i64 0, .slice (some ⟨w.heap.size + 1 + 1, 0, none⟩) 1 1, .slice none 0 0, .slice none 0 0]
def namMs (w : World) (a c : ByteArray) : Array Value := #[.string c, .slice none 0 0, .string ⟨#[86]⟩, .bool true, .bool false, .int .i64 0, .int .i64 0, .slice (some ⟨w.heap.size + 1 + 1, 0, none⟩) 1 1, .slice none 0 0, .slice none 0 0, .string a, .slice none 0 0, .string ⟨#[86]⟩, .bool true, .bool false, .int .i64 0, .int .i64 0, .slice (some ⟨w.heap.size + 1 + 1, 0, none⟩) 1 1, .slice none 0 0, .slice none 0 0]
/-- What ClassNames has laid when it asks. -/
def namW (w : World) (a b c : ByteArray) : World :=
  (((((oneW w (oneC w ⟨#[65, 98]⟩) 0).alloc (.cells (namB w) 27)).alloc (.cells (namF a b) 30)).alloc (.cells (namMc w c) 35)).alloc (.cells (namMc w a) 35)).alloc (.cells (namMs w a c) 35)
theorem alloc1 (w : World) (o : Obj) : Below w.heap.size w (w.alloc o) := (Below.refl _ _).alloc (Nat.le_refl _) o
theorem namW_size (w : World) (a b c : ByteArray) : (namW w a b c).heap.size = w.heap.size + 1 + 1 + 1 + 1 + 1 + 1 + 1 + 1 + 1 := by
  unfold namW
  rw [alloc_size, alloc_size, alloc_size, alloc_size, alloc_size, oneW_size]
theorem nam_all (w : World) (a b c : ByteArray) (ha : a.size ≤ maxLen) (hb : b.size ≤ maxLen) (hc : c.size ≤ maxLen) :
    Below w.heap.size w (namW w a b c) ∧ ClsCells (namW w a b c) (w.heap.size + 1 + 1 + 1 + 1) (.string ⟨#[65, 98]⟩) (.string ⟨#[79, 98, 106, 101, 99, 116]⟩) (.bool false) (.slice none 0 0) (.slice (some ⟨w.heap.size + 1 + 1 + 1 + 1 + 1, 0, none⟩) 2 2) (.slice (some ⟨w.heap.size + 1 + 1 + 1 + 1 + 1 + 1 + 1 + 1, 0, none⟩) 2 2) ∧
      ClsV (namW w a b c) (.slice none 0 0) (.slice (some ⟨w.heap.size + 1 + 1 + 1 + 1 + 1, 0, none⟩) 2 2) (.slice (some ⟨w.heap.size + 1 + 1 + 1 + 1 + 1 + 1 + 1 + 1, 0, none⟩) 2 2) (namL a b c) := by
  have hsz := namW_size w a b c
  have b0 := oneW_below w (oneC w ⟨#[65, 98]⟩) 0
  have hz0 := oneW_size w (oneC w ⟨#[65, 98]⟩) 0
  have HC := one_code w (oneC w ⟨#[65, 98]⟩) 0
  unfold namW
  generalize oneW w (oneC w ⟨#[65, 98]⟩) 0 = W0 at *
  have X := ClsCells.new W0 (.string ⟨#[65, 98]⟩) (.string ⟨#[79, 98, 106, 101, 99, 116]⟩) (.bool false) (.slice none 0 0) (.slice (some ⟨w.heap.size + 1 + 1 + 1 + 1 + 1, 0, none⟩) 2 2) (.slice (some ⟨w.heap.size + 1 + 1 + 1 + 1 + 1 + 1 + 1 + 1, 0, none⟩) 2 2) 27
  rw [hz0] at X
  have b1 := alloc1 W0 (.cells (namB w) 27)
  have hz1 := alloc_size W0 (.cells (namB w) 27)
  have X1 : ClsCells (W0.alloc (.cells (namB w) 27)) _ _ _ _ _ _ _ := X
  generalize W0.alloc (.cells (namB w) 27) = W1 at *
  have F := fun j => cell_new W1 (namF a b) 30 j
  rw [hz1, hz0] at F
  have b2 := alloc1 W1 (.cells (namF a b) 30)
  have hz2 := alloc_size W1 (.cells (namF a b) 30)
  generalize W1.alloc (.cells (namF a b) 30) = W2 at *
  have b3 := alloc1 W2 (.cells (namMc w c) 35)
  have hz3 := alloc_size W2 (.cells (namMc w c) 35)
  generalize W2.alloc (.cells (namMc w c) 35) = W3 at *
  have b4 := alloc1 W3 (.cells (namMc w a) 35)
  have hz4 := alloc_size W3 (.cells (namMc w a) 35)
  generalize W3.alloc (.cells (namMc w a) 35) = W4 at *
  have G := fun j => cell_new W4 (namMs w a c) 35 j
  rw [hz4, hz3, hz2, hz1, hz0] at G
  have b5 := alloc1 W4 (.cells (namMs w a c) 35)
  have hz5 := alloc_size W4 (.cells (namMs w a c) 35)
  generalize W4.alloc (.cells (namMs w a c) 35) = W5 at *
  have k25 := b3.trans ((b4.trans (b5.mono b4.size)).mono b3.size)
  have k15 := b2.trans (k25.mono b2.size)
  have k05 := b1.trans (k15.mono b1.size)
  have HC5 := HC.later insE_stable k05
  refine ⟨b0.trans (k05.mono b0.size), X1.later k15, ⟨Sl.none _ _ _, Sl.two (by omega) ⟨?_, ?_, ?_, ha, (by decide : (1 : Nat) ≤ maxLen)⟩ ⟨?_, ?_, ?_, hb, (by decide : (1 : Nat) ≤ maxLen)⟩, Sl.two (by omega) ⟨.slice none 0 0, .slice (some ⟨w.heap.size + 1 + 1, 0, none⟩) 1 1, .slice none 0 0, .slice none 0 0, ⟨Sl.none _ _ _, HC5, Sl.none _ _ _, Sl.none _ _ _, hc, (by decide : (1 : Nat) ≤ maxLen)⟩, fun j hj => ?_⟩ ⟨.slice none 0 0, .slice (some ⟨w.heap.size + 1 + 1, 0, none⟩) 1 1, .slice none 0 0, .slice none 0 0, ⟨Sl.none _ _ _, HC5, Sl.none _ _ _, Sl.none _ _ _, ha, (by decide : (1 : Nat) ≤ maxLen)⟩, fun j hj => ?_⟩, (by decide : (2 : Nat) ≤ maxLen), (by decide : (6 : Nat) ≤ maxLen)⟩⟩
  · exact cellOn (F 0) k25
  · exact cellOn (F 1) k25
  · exact cellOn (F 2) k25
  · exact cellOn (F 3) k25
  · exact cellOn (F 4) k25
  · exact cellOn (F 5) k25
  · rw [Nat.zero_add, G j]
    rcases j with _ | _ | _ | _ | _ | _ | _ | _ | _ | _ | j
    all_goals first | rfl | (exfalso; omega)
  · rw [G (10 + j)]
    rcases j with _ | _ | _ | _ | _ | _ | _ | _ | _ | _ | j
    all_goals first | rfl | (exfalso; omega)
end Cls
end Go.Proofs.Ytbfcjflgomedgaa
