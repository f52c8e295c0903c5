/- Contracts and laws, texts of mine put into one. -/
import Derived.Test.YtjblmgdjaaeedaaGreatBaseKind
import Derived.Deep.Light
import Derived.Test.YtjblmgdjaaeedaaGreatLibOwn
import Derived.Test.YtjblmgdjaaeedaaGreatLibMore
/- What the document says of instructions (no program in it): C and M are their bytes as numbers. -/
namespace Go.Proofs.YtjblmgdjaaeedaaGreat
namespace Op4
open Num Kind
set_option linter.unusedVariables false
set_option maxRecDepth 100000

def jumpsB (o : Int) : Bool := decide (20 ≤ o) && decide (o ≤ 36)
def endsB (o : Int) : Bool := decide (o = 20 ∨ o = 46 ∨ o = 47 ∨ o = 48 ∨ o = 58 ∨ o = 61)
/-- Has it a number, a class (1) or a type (2), a name? -/
def partsF (o : Int) : Bool × Int × Bool :=
  if o = 1 ∨ o = 3 ∨ o = 4 ∨ (20 ≤ o ∧ o ≤ 36) then (true, 0, false)
  else if o = 37 then (false, 1, false)
  else if 38 ≤ o ∧ o ≤ 45 then (false, 1, true)
  else if o = 50 ∨ o = 56 ∨ o = 57 then (false, 2, false)
  else (false, 0, false)
def numberB (o a : Int) : Bool :=
  if o = 1 then decide (-2147483648 ≤ a ∧ a < 2147483648) else if 20 ≤ o ∧ o ≤ 36 then decide (0 ≤ a ∧ a < 100) else decide (0 ≤ a ∧ a < 16)
def mayIns (o a : Int) (c m : List Int) : Bool :=
  if o < 1 ∨ 61 < o then false
  else if ((partsF o).1 && !numberB o a) || (!(partsF o).1 && (a != 0)) then false
  else if (((partsF o).2.1 == 0) && !(c == [])) || (((partsF o).2.1 == 1) && !classB c) || (((partsF o).2.1 == 2) && !refB c) then false
  else if (partsF o).2.2 then nameB m && !(m == initL)
  else m == []

/-- The five kinds of instructions, by their numbers. -/
theorem kinds (o : Int) : (((o = 1 ∨ o = 3 ∨ o = 4) ∨ (20 ≤ o ∧ o ≤ 36)) ∧ partsF o = (true, 0, false)) ∨ (o = 37 ∧ partsF o = (false, 1, false)) ∨ ((38 ≤ o ∧ o ≤ 45) ∧ partsF o = (false, 1, true)) ∨
    ((o = 50 ∨ o = 56 ∨ o = 57) ∧ partsF o = (false, 2, false)) ∨ ((¬ (o = 1 ∨ o = 3 ∨ o = 4 ∨ (20 ≤ o ∧ o ≤ 36)) ∧ ¬ o = 37 ∧ ¬ (38 ≤ o ∧ o ≤ 45) ∧ ¬ (o = 50 ∨ o = 56 ∨ o = 57)) ∧ partsF o = (false, 0, false)) := by
  unfold partsF
  by_cases h1 : o = 1 ∨ o = 3 ∨ o = 4 ∨ (20 ≤ o ∧ o ≤ 36)
  · rw [if_pos h1]; exact .inl ⟨by omega, rfl⟩
  · rw [if_neg h1]
    by_cases h2 : o = 37
    · rw [if_pos h2]; exact .inr (.inl ⟨h2, rfl⟩)
    · rw [if_neg h2]
      by_cases h3 : 38 ≤ o ∧ o ≤ 45
      · rw [if_pos h3]; exact .inr (.inr (.inl ⟨h3, rfl⟩))
      · rw [if_neg h3]
        by_cases h4 : o = 50 ∨ o = 56 ∨ o = 57
        · rw [if_pos h4]; exact .inr (.inr (.inr (.inl ⟨h4, rfl⟩)))
        · rw [if_neg h4]; exact .inr (.inr (.inr (.inr ⟨⟨h1, h2, h3, h4⟩, rfl⟩)))
end Op4
end Go.Proofs.YtjblmgdjaaeedaaGreat

/- The contracts of the document's own answers on instructions: Jumps, Ends, parts, number, EqIns. -/
namespace Go.Proofs.YtjblmgdjaaeedaaGreat
namespace Op4
open Num Kind
open Go.RowKit
set_option linter.unusedVariables false
set_option maxRecDepth 100000

theorem ret_b {a b : Bool} (h : a = b) : Ending.returned (.bool a) = .returned (.bool b) := by rw [h]
theorem jumps_any (o : Int) (w : World) : Calls Tryz.prog 91 #[.int .i64 o] w fun e w' => e = .returned (.bool (jumpsB o)) ∧ w = w' := by
  by_cases h1 : 20 ≤ o
  · have e0 : jumpsB o = decide (o ≤ 36) := by unfold jumpsB; simp [h1]
    rw [e0]
    clear e0
    go_enter Tryz.func91, Tryz.ntmps91
    go_wp2_with fail
    go_ret
    exact ⟨rfl, rfl⟩
  · have e0 : jumpsB o = false := by unfold jumpsB; simp; omega
    rw [e0]
    clear e0
    go_enter Tryz.func91, Tryz.ntmps91
    go_wp2_with fail
    go_ret
    exact ⟨rfl, rfl⟩
theorem ends_any (o : Int) (w : World) : Calls Tryz.prog 89 #[.int .i64 o] w fun e w' => e = .returned (.bool (endsB o)) ∧ w = w' := by
  go_enter Tryz.func89, Tryz.ntmps89
  go_wp2_with fail
  all_goals
    go_ret
    refine ⟨ret_b ?_, rfl⟩
    go_light
    simp_all [endsB]
def resP (r : Bool × Int × Bool) : Value := .tuple #[.bool r.1, .int .i64 r.2.1, .bool r.2.2]
theorem ret_p {a c : Bool} {b : Int} {r : Bool × Int × Bool} (h : (a, b, c) = r) : Ending.returned (.tuple #[.bool a, .int .i64 b, .bool c]) = .returned (resP r) := by rw [← h]; rfl
theorem parts_any (o : Int) (w : World) : Calls Tryz.prog 123 #[.int .i64 o] w fun e w' => e = .returned (resP (partsF o)) ∧ w = w' := by
  go_enter Tryz.func123, Tryz.ntmps123
  go_wp2_with (go_at_call 91; refine (jumps_any o _).mono ?_; rintro e w' ⟨rfl, rfl⟩)
  all_goals
    go_ret3
    refine ⟨ret_p ?_, rfl⟩
    go_light
    simp_all [partsF, jumpsB]
    try (repeat' split) <;> first | rfl | (exfalso; omega)
theorem number_any (o a : Int) (w : World) : Calls Tryz.prog 124 #[.int .i64 o, .int .i64 a] w fun e w' => e = .returned (.bool (numberB o a)) ∧ w = w' := by
  go_enter Tryz.func124, Tryz.ntmps124
  go_wp2_with (go_at_call 91; refine (jumps_any o _).mono ?_; rintro e w' ⟨rfl, rfl⟩)
  all_goals
    go_ret
    refine ⟨ret_b ?_, rfl⟩
    go_light
    simp_all [numberB, jumpsB]
    try (repeat' split) <;> first | rfl | omega | (exfalso; omega)
end Op4
end Go.Proofs.YtjblmgdjaaeedaaGreat

/- The contracts over instructions as values: EqIns, MayIns. -/
namespace Go.Proofs.YtjblmgdjaaeedaaGreat
namespace Op4
open Num Kind
open Go.RowKit
set_option linter.unusedVariables false
set_option maxRecDepth 100000

/-- An instruction as the text has it. -/
def insV (o a : Int) (c m : ByteArray) : Value := .agg #[.int .i64 o, .int .i64 a, .string c, .string m]
def eqB (o a : Int) (c m : ByteArray) (o' a' : Int) (c' m' : ByteArray) : Bool := decide (o = o' ∧ a = a' ∧ c.toList = c'.toList ∧ m.toList = m'.toList)

set_option maxHeartbeats 1000000 in
theorem eq_any (o a : Int) (c m : ByteArray) (o' a' : Int) (c' m' : ByteArray) (w : World) :
    Calls Tryz.prog 68 #[insV o a c m, insV o' a' c' m'] w fun e w' => e = .returned (.bool (eqB o a c m o' a' c' m')) ∧ Below w.heap.size w w' := by
  unfold insV
  go_enter Tryz.func68, Tryz.ntmps68
  go_wp2_with fail
  all_goals
    go_ret
    refine ⟨ret_b ?_, ((Below.refl _ _).alloc (Nat.le_refl _) _).alloc (by simp) _⟩
    go_light
    simp_all [eqB]
    try (rw [Bool.eq_iff_iff]; simp)

theorem empty_nums (c : ByteArray) : c.toList.isEmpty = (nums c == []) := by
  rw [← beq_nums c [] [] rfl]
  cases c.toList <;> rfl

set_option maxRecDepth 100000 in
set_option maxHeartbeats 2000000 in
theorem may_ins (o a : Int) (c m : ByteArray) (w : World) (hc : c.size ≤ maxLen) (hm : m.size ≤ maxLen) :
    Calls Tryz.prog 90 #[insV o a c m] w fun e w' => e = .returned (.bool (mayIns o a (nums c) (nums m))) ∧ Below w.heap.size w w' := by
  unfold insV
  have hce := empty_nums c
  have hme := empty_nums m
  have hmi := beq_nums m [36, 105, 110, 105, 116] initL rfl
  rcases kinds o with ⟨hk, hp⟩ | ⟨hk, hp⟩ | ⟨hk, hp⟩ | ⟨hk, hp⟩ | ⟨hk, hp⟩
  all_goals
    have HP : Hid _ := hp
    have HK : Hid _ := hk
    clear hp hk
    go_enter Tryz.func90, Tryz.ntmps90
    go_wp2_with fail
    refine (parts_any o _).mono ?_
    rintro e w' ⟨rfl, rfl⟩
    rw [HP.out]
    simp only [resP]
    go_wp2_with (first | (go_at_call 124; refine (number_any o a _).mono ?_; rintro e w' ⟨rfl, rfl⟩) | (go_at_call 25; refine (class_any c _ hc).mono ?_; rintro e w' ⟨rfl, rfl⟩) | (go_at_call 125; refine (ref_any c _ hc).mono ?_; rintro e w' ⟨rfl, rfl⟩) | (go_at_call 26; refine (name_any m _ hm).mono ?_; rintro e w' ⟨rfl, rfl⟩))
  all_goals
    go_ret
    refine ⟨ret_b ?_, (Below.refl _ _).alloc (Nat.le_refl _) _⟩
    go_light
    have hp := HP.out
    clear HP HK
    unfold mayIns
    rw [hp]
    simp_all
    try (repeat' split) <;> first | rfl | omega | (exfalso; omega)
end Op4
end Go.Proofs.YtjblmgdjaaeedaaGreat

/- An instruction in memory, carried on. -/
namespace Go.Proofs.YtjblmgdjaaeedaaGreat
namespace Op4
open Num Kind
open Go.RowKit
set_option linter.unusedVariables false
set_option maxRecDepth 100000

structure InsAt (w : World) (b off : Nat) (o a : Int) (c m : ByteArray) : Prop where
  c0 : w.cell? ⟨b, off, none⟩ = some (.int .i64 o)
  c1 : w.cell? ⟨b, off + 1, none⟩ = some (.int .i64 a)
  c2 : w.cell? ⟨b, off + 2, none⟩ = some (.string c)
  c3 : w.cell? ⟨b, off + 3, none⟩ = some (.string m)
theorem InsAt.later {w w' : World} {b off : Nat} {o a : Int} {c m : ByteArray} (h : InsAt w b off o a c m) (hb : Below w.heap.size w w') : InsAt w' b off o a c m :=
  ⟨cellOn h.c0 hb, cellOn h.c1 hb, cellOn h.c2 hb, cellOn h.c3 hb⟩
theorem InsAt.new (w : World) (o a : Int) (c m : ByteArray) (t : TypeId) : InsAt (w.alloc (.cells #[.int .i64 o, .int .i64 a, .string c, .string m] t)) w.heap.size 0 o a c m :=
  ⟨cell_new _ _ _ 0, cell_new _ _ _ 1, cell_new _ _ _ 2, cell_new _ _ _ 3⟩
theorem InsAt.alloc {w : World} {b off : Nat} {o a : Int} {c m : ByteArray} (h : InsAt w b off o a c m) (x : Obj) : InsAt (w.alloc x) b off o a c m :=
  h.later ((Below.refl _ _).alloc (Nat.le_refl _) _)
end Op4
end Go.Proofs.YtjblmgdjaaeedaaGreat

/- The contract of the document's own bytes of an instruction: PutIns. -/
namespace Go.Proofs.YtjblmgdjaaeedaaGreat
namespace Op4
open Num Kind
open Go.RowKit
set_option linter.unusedVariables false
set_option maxRecDepth 100000

/-- An instruction's bytes. -/
def putI (o a : Int) (c m : ByteArray) : List Int :=
  enc o ++ ((if (partsF o).1 then enc a else []) ++ ((if 0 < (partsF o).2.1 then encT c else []) ++ (if (partsF o).2.2 then encT m else [])))

theorem encT_small (c : ByteArray) (h : c.size ≤ 100) : 1 ≤ (encT c).length ∧ (encT c).length ≤ 110 := by
  have := encT_length c
  have := enc_len c.size
  omega

end Op4
end Go.Proofs.YtjblmgdjaaeedaaGreat

/- What the document says of reading an instruction (no program in it), and that an instruction that was written is read. -/
namespace Go.Proofs.YtjblmgdjaaeedaaGreat
namespace Op4
open Num Kind
set_option linter.unusedVariables false
set_option maxRecDepth 100000

abbrev ResI : Type := (Int × Int × List Int × List Int) × Int × Int
def failI (e : Int) : ResI := ((0, 0, [], []), 0, e)
def textB (k : Int) (s : List Int) : Bool := if k = 1 then classB s else refB s
def getM (o a : Int) (c : List Int) (n : Nat) (xs : List Int) : ResI :=
  if (partsF o).2.2 = true then
    (if (getText (xs.drop n)).2.2 ≠ 0 then failI (getText (xs.drop n)).2.2
     else if (nameB (getText (xs.drop n)).1 && !((getText (xs.drop n)).1 == initL)) = true then ((o, a, c, (getText (xs.drop n)).1), n + (getText (xs.drop n)).2.1, 0) else failI 1)
  else ((o, a, c, []), n, 0)
def getC (o a : Int) (n : Nat) (xs : List Int) : ResI :=
  if 0 < (partsF o).2.1 then
    (if (getText (xs.drop n)).2.2 ≠ 0 then failI (getText (xs.drop n)).2.2
     else if textB (partsF o).2.1 (getText (xs.drop n)).1 = true then getM o a (getText (xs.drop n)).1 (n + (getText (xs.drop n)).2.1.toNat) xs else failI 1)
  else getM o a [] n xs
def getA (o : Int) (n : Nat) (xs : List Int) : ResI :=
  if (partsF o).1 = true then
    (if (get (xs.drop n)).2.2 ≠ 0 then failI (get (xs.drop n)).2.2
     else if numberB o (get (xs.drop n)).1 = true then getC o (get (xs.drop n)).1 (n + (get (xs.drop n)).2.1.toNat) xs else failI 1)
  else getC o 0 n xs
def getI (xs : List Int) : ResI :=
  if (get xs).2.2 ≠ 0 then failI (get xs).2.2 else if (get xs).1 < 1 ∨ 61 < (get xs).1 then failI 1 else getA (get xs).1 (get xs).2.1.toNat xs

theorem getI_put (o a : Int) (c m : ByteArray) (R : List Int) (h : mayIns o a (nums c) (nums m) = true) (ho : Is64 o) (ha : Is64 a) (hc : c.size ≤ 100) (hm : m.size ≤ 100) :
    getI (putI o a c m ++ R) = ((o, a, nums c, nums m), ((putI o a c m).length : Int), 0) := by
  unfold mayIns at h
  split at h
  · cases h
  rename_i h1
  split at h
  · cases h
  rename_i h2
  split at h
  · cases h
  rename_i h3
  have go := fun T => get_enc o T ho
  have ga := fun T => get_enc a T ha
  have gc := fun T => getText_enc c T hc
  have gm := fun T => getText_enc m T hm
  rcases kinds o with ⟨hk, hp⟩ | ⟨hk, hp⟩ | ⟨hk, hp⟩ | ⟨hk, hp⟩ | ⟨hk, hp⟩
  · simp [hp] at h h2 h3
    have e : putI o a c m ++ R = enc o ++ (enc a ++ R) := by unfold putI; rw [hp]; simp
    have e2 : (putI o a c m).length = (enc o).length + (enc a).length := by unfold putI; rw [hp]; simp
    unfold getI
    rw [e2, e, go]
    simp only [ne_eq, not_true, if_false, h1]
    unfold getA
    simp only [hp, Int.toNat_natCast, List.drop_left, ga]
    simp [h2, getC, getM, hp, h3, h]
  · simp [hp] at h h2 h3
    have e : putI o a c m ++ R = enc o ++ (encT c ++ R) := by unfold putI; rw [hp]; simp
    have e2 : (putI o a c m).length = (enc o).length + (encT c).length := by unfold putI; rw [hp]; simp
    unfold getI
    rw [e2, e, go]
    simp only [ne_eq, not_true, if_false, h1]
    unfold getA getC
    simp only [hp, Int.toNat_natCast, List.drop_left, gc]
    simp [h2, textB, getM, hp, h3, h]
  · simp [hp] at h h2 h3
    have e : putI o a c m ++ R = enc o ++ (encT c ++ (encT m ++ R)) := by unfold putI; rw [hp]; simp
    have e2 : (putI o a c m).length = (enc o).length + (encT c).length + (encT m).length := by unfold putI; rw [hp]; simp; omega
    unfold getI
    rw [e2, e, go]
    simp only [ne_eq, not_true, if_false, h1]
    unfold getA getC
    simp only [hp, Int.toNat_natCast, List.drop_left, gc]
    unfold getM
    rw [← List.append_assoc, ← List.length_append]
    simp only [hp, List.drop_left]
    simp [h2, textB, h3, h, gm]
  · simp [hp] at h h2 h3
    have e : putI o a c m ++ R = enc o ++ (encT c ++ R) := by unfold putI; rw [hp]; simp
    have e2 : (putI o a c m).length = (enc o).length + (encT c).length := by unfold putI; rw [hp]; simp
    unfold getI
    rw [e2, e, go]
    simp only [ne_eq, not_true, if_false, h1]
    unfold getA getC
    simp only [hp, Int.toNat_natCast, List.drop_left, gc]
    simp [h2, textB, getM, hp, h3, h]
  · simp [hp] at h h2 h3
    have e : putI o a c m ++ R = enc o ++ R := by unfold putI; rw [hp]; simp
    have e2 : (putI o a c m).length = (enc o).length := by unfold putI; rw [hp]; simp
    unfold getI
    rw [e2, e, go]
    simp only [ne_eq, not_true, if_false, h1]
    simp [h2, getA, getC, getM, hp, h3, h]
end Op4
end Go.Proofs.YtjblmgdjaaeedaaGreat

/- Plain facts on reading an instruction. -/
namespace Go.Proofs.YtjblmgdjaaeedaaGreat
namespace Op4
open Num Kind
set_option linter.unusedVariables false
set_option maxRecDepth 100000

theorem nums_str {s : List Int} (h : Bytes s) : nums (strOfNums s) = s := by
  unfold nums strOfNums
  show ((s.map fun n => UInt8.ofNat n.toNat).toArray.toList.map fun b => (b.toNat : Int)) = s
  rw [List.toList_toArray, List.map_map]
  conv => rhs; rw [← List.map_id s]
  apply List.map_congr_left
  intro x hx
  have := h x hx
  simp
  omega
theorem str_size {s : List Int} : (strOfNums s).size = s.length := by
  unfold strOfNums
  show ((s.map fun n => UInt8.ofNat n.toNat).toArray).size = s.length
  simp
theorem bytes_drop' {xs : List Int} (h : Bytes xs) (k : Nat) : Bytes (xs.drop k) := fun x hx => h x (List.mem_of_mem_drop hx)
theorem getText_bd (xs : List Int) (hb : Bytes xs) : Bytes (getText xs).1 ∧ (getText xs).1.length ≤ xs.length ∧ 0 ≤ (getText xs).2.1 ∧ (getText xs).2.1 ≤ xs.length ∧ 0 ≤ (getText xs).2.2 ∧ (getText xs).2.2 ≤ 2 := by
  have g := get_bd xs hb
  have e0 : Bytes [] := fun x hx => by simp at hx
  unfold getText
  split
  · exact ⟨e0, by simp, by simp, by simp, by simp; omega, by simp; omega⟩
  · split
    · exact ⟨e0, by simp, by simp, by simp, by simp, by simp⟩
    · split
      · exact ⟨e0, by simp, by simp, by simp, by simp, by simp⟩
      · refine ⟨bytes_take (bytes_drop' hb _) _, ?_, ?_, ?_, by simp, by simp⟩
        · simp; omega
        · simp only; omega
        · simp only; omega
theorem get_nil : get [] = (0, 0, 2) := rfl
theorem getText_nil : getText [] = ([], 0, 2) := rfl
end Op4
end Go.Proofs.YtjblmgdjaaeedaaGreat

/- An instruction in a variable of the call's own, carried on and stored into. -/
namespace Go.Proofs.YtjblmgdjaaeedaaGreat
namespace Op4
open Num Kind
open Go.RowKit
set_option linter.unusedVariables false
set_option maxRecDepth 100000

structure Box (w : World) (b : Nat) (o a : Int) (c m : ByteArray) : Prop where
  lt : b < w.heap.size
  c0 : w.cell? ⟨b, 0, none⟩ = some (.int .i64 o)
  c1 : w.cell? ⟨b, 1, none⟩ = some (.int .i64 a)
  c2 : w.cell? ⟨b, 2, none⟩ = some (.string c)
  c3 : w.cell? ⟨b, 3, none⟩ = some (.string m)
  f0 : w.frozen? ⟨b, 0, none⟩ = false
  f1 : w.frozen? ⟨b, 1, none⟩ = false
  f2 : w.frozen? ⟨b, 2, none⟩ = false
  f3 : w.frozen? ⟨b, 3, none⟩ = false
theorem Box.upto {w w' : World} {b B : Nat} {o a : Int} {c m : ByteArray} (h : Box w b o a c m) (hb : Below B w w') (hB : b < B) : Box w' b o a c m := by
  refine ⟨Nat.lt_of_lt_of_le h.lt hb.size, ?_, ?_, ?_, ?_, ?_, ?_, ?_, ?_⟩
  · rw [hb.cell (p := ⟨b, 0, none⟩) hB]; exact h.c0
  · rw [hb.cell (p := ⟨b, 1, none⟩) hB]; exact h.c1
  · rw [hb.cell (p := ⟨b, 2, none⟩) hB]; exact h.c2
  · rw [hb.cell (p := ⟨b, 3, none⟩) hB]; exact h.c3
  · rw [hb.frozen (p := ⟨b, 0, none⟩) hB]; exact h.f0
  · rw [hb.frozen (p := ⟨b, 1, none⟩) hB]; exact h.f1
  · rw [hb.frozen (p := ⟨b, 2, none⟩) hB]; exact h.f2
  · rw [hb.frozen (p := ⟨b, 3, none⟩) hB]; exact h.f3
theorem Box.later {w w' : World} {b : Nat} {o a : Int} {c m : ByteArray} (h : Box w b o a c m) (hb : Below w.heap.size w w') : Box w' b o a c m := h.upto hb h.lt
theorem Box.alloc {w : World} {b : Nat} {o a : Int} {c m : ByteArray} (h : Box w b o a c m) (x : Obj) : Box (w.alloc x) b o a c m := h.later ((Below.refl _ _).alloc (Nat.le_refl _) _)
theorem Box.new (w : World) (o a : Int) (c m : ByteArray) (t : TypeId) : Box (w.alloc (.cells #[.int .i64 o, .int .i64 a, .string c, .string m] t)) w.heap.size o a c m := by
  have h := heap_alloc_new w (.cells #[.int .i64 o, .int .i64 a, .string c, .string m] t)
  refine ⟨by simp, cell_new _ _ _ 0, cell_new _ _ _ 1, cell_new _ _ _ 2, cell_new _ _ _ 3, ?_, ?_, ?_, ?_⟩ <;> (simp only [World.frozen?, h]; rfl)
/-- A whole instruction stored. -/
def put4 (w : World) (b : Nat) (o a : Int) (c m : ByteArray) : World :=
  (((w.setCell ⟨b, 0, none⟩ (.int .i64 o)).setCell ⟨b, 1, none⟩ (.int .i64 a)).setCell ⟨b, 2, none⟩ (.string c)).setCell ⟨b, 3, none⟩ (.string m)
theorem set_near (W : World) (b i j : Nat) (v : Value) (h : j ≠ i) : (W.setCell ⟨b, j, none⟩ v).cell? ⟨b, i, none⟩ = W.cell? ⟨b, i, none⟩ := by
  apply World.cell?_setCell_other
  intro e
  cases e
  exact h rfl
theorem set_far (W : World) (b b' i j : Nat) (v : Value) (h : b' ≠ b) : (W.setCell ⟨b', j, none⟩ v).cell? ⟨b, i, none⟩ = W.cell? ⟨b, i, none⟩ := by
  apply World.cell?_setCell_other
  intro e
  cases e
  exact h rfl
theorem set_same (W : World) (b i : Nat) (v u : Value) (h : W.cell? ⟨b, i, none⟩ = some u) : (W.setCell ⟨b, i, none⟩ v).cell? ⟨b, i, none⟩ = some v := by
  apply World.cell?_setCell_same
  exact h
theorem Box.stored {w : World} {b : Nat} {o a : Int} {c m : ByteArray} (h : Box w b o a c m) (o' a' : Int) (c' m' : ByteArray) : Box (put4 w b o' a' c' m') b o' a' c' m' := by
  unfold put4
  refine ⟨by simpa [World.setCell] using h.lt, ?_, ?_, ?_, ?_, by simpa using h.f0, by simpa using h.f1, by simpa using h.f2, by simpa using h.f3⟩
  · rw [set_near _ _ _ _ _ (by decide), set_near _ _ _ _ _ (by decide), set_near _ _ _ _ _ (by decide)]
    exact set_same _ _ _ _ _ h.c0
  · rw [set_near _ _ _ _ _ (by decide), set_near _ _ _ _ _ (by decide)]
    exact set_same _ _ _ _ (.int .i64 a) (by rw [set_near _ _ _ _ _ (by decide)]; exact h.c1)
  · rw [set_near _ _ _ _ _ (by decide)]
    exact set_same _ _ _ _ (.string c) (by rw [set_near _ _ _ _ _ (by decide), set_near _ _ _ _ _ (by decide)]; exact h.c2)
  · exact set_same _ _ _ _ (.string m) (by rw [set_near _ _ _ _ _ (by decide), set_near _ _ _ _ _ (by decide), set_near _ _ _ _ _ (by decide)]; exact h.c3)
theorem put4_below {B : Nat} {w0 w : World} (h : Below B w0 w) {b : Nat} (hb : B ≤ b) (o a : Int) (c m : ByteArray) : Below B w0 (put4 w b o a c m) :=
  (((h.setCell (p := ⟨b, 0, none⟩) hb _).setCell (p := ⟨b, 1, none⟩) hb _).setCell (p := ⟨b, 2, none⟩) hb _).setCell (p := ⟨b, 3, none⟩) hb _
theorem Box.other {w : World} {b b' : Nat} {o a : Int} {c m : ByteArray} (h : Box w b o a c m) (hne : b ≠ b') (o' a' : Int) (c' m' : ByteArray) : Box (put4 w b' o' a' c' m') b o a c m := by
  unfold put4
  refine ⟨by simpa [World.setCell] using h.lt, ?_, ?_, ?_, ?_, by simpa using h.f0, by simpa using h.f1, by simpa using h.f2, by simpa using h.f3⟩
  · rw [set_far _ _ _ _ _ _ hne.symm, set_far _ _ _ _ _ _ hne.symm, set_far _ _ _ _ _ _ hne.symm, set_far _ _ _ _ _ _ hne.symm]; exact h.c0
  · rw [set_far _ _ _ _ _ _ hne.symm, set_far _ _ _ _ _ _ hne.symm, set_far _ _ _ _ _ _ hne.symm, set_far _ _ _ _ _ _ hne.symm]; exact h.c1
  · rw [set_far _ _ _ _ _ _ hne.symm, set_far _ _ _ _ _ _ hne.symm, set_far _ _ _ _ _ _ hne.symm, set_far _ _ _ _ _ _ hne.symm]; exact h.c2
  · rw [set_far _ _ _ _ _ _ hne.symm, set_far _ _ _ _ _ _ hne.symm, set_far _ _ _ _ _ _ hne.symm, set_far _ _ _ _ _ _ hne.symm]; exact h.c3
theorem Box.grown {w w' : World} {b : Nat} {o a : Int} {c m : ByteArray} {row : Option Nat} (h : Box w b o a c m) (hg : w.grownBy w' row) (hne : some b ≠ row) : Box w' b o a c m := by
  have e : w'.heap[b]? = w.heap[b]? := hg.block b h.lt hne
  have cl : ∀ i, w'.cell? ⟨b, i, none⟩ = w.cell? ⟨b, i, none⟩ := fun i => World.cell?_of_block (w := w) e
  have fr : ∀ i, w'.frozen? ⟨b, i, none⟩ = w.frozen? ⟨b, i, none⟩ := fun i => World.frozen?_of_block (w := w) e
  exact ⟨Nat.lt_of_lt_of_le h.lt hg.size, by rw [cl]; exact h.c0, by rw [cl]; exact h.c1, by rw [cl]; exact h.c2, by rw [cl]; exact h.c3, by rw [fr]; exact h.f0, by rw [fr]; exact h.f1, by rw [fr]; exact h.f2, by rw [fr]; exact h.f3⟩
end Op4
end Go.Proofs.YtjblmgdjaaeedaaGreat

/- Instructions that may be have unlike bytes if they are unlike. -/
namespace Go.Proofs.YtjblmgdjaaeedaaGreat
namespace Op4
open Num Kind
set_option linter.unusedVariables false
set_option maxRecDepth 100000

theorem toList_eq {s t : ByteArray} : s.toList = t.toList ↔ nums s = nums t := by
  rw [Lib.toList_data, Lib.toList_data]
  constructor
  · intro e
    unfold nums
    rw [e]
  · exact map_toNat_inj _ _
theorem putI_len (o a : Int) (c m : ByteArray) (hc : c.size ≤ 100) (hm : m.size ≤ 100) : 1 ≤ (putI o a c m).length ∧ (putI o a c m).length ≤ 300 := by
  have := enc_len o
  have := enc_len a
  have := encT_small c hc
  have := encT_small m hm
  unfold putI
  simp only [List.length_append]
  repeat' split
  all_goals ((try simp only [List.length_nil]); omega)
theorem putI_bytes (o a : Int) (c m : ByteArray) (ho : Is64 o) (ha : Is64 a) (hc : c.size ≤ 100) (hm : m.size ≤ 100) : Bytes (putI o a c m) := by
  have e : Bytes [] := fun x hx => by simp at hx
  unfold putI
  refine bytes_append (enc_bd o ho) (bytes_append ?_ (bytes_append ?_ ?_))
  · split
    · exact enc_bd a ha
    · exact e
  · split
    · exact encT_bytes c hc
    · exact e
  · split
    · exact encT_bytes m hm
    · exact e
theorem eqB_self (o a : Int) (c m : ByteArray) : eqB o a c m o a c m = true := by simp [eqB]
theorem put_eq (o a : Int) (c m : ByteArray) (o' a' : Int) (c' m' : ByteArray) (h : mayIns o a (nums c) (nums m) = true) (h' : mayIns o' a' (nums c') (nums m') = true)
    (ho : Is64 o) (ha : Is64 a) (hc : c.size ≤ 100) (hm : m.size ≤ 100) (ho' : Is64 o') (ha' : Is64 a') (hc' : c'.size ≤ 100) (hm' : m'.size ≤ 100) :
    ((strOfNums (putI o' a' c' m')).toList == (strOfNums (putI o a c m)).toList) = eqB o a c m o' a' c' m' := by
  have b := putI_bytes o a c m ho ha hc hm
  have b' := putI_bytes o' a' c' m' ho' ha' hc' hm'
  by_cases e : eqB o a c m o' a' c' m' = true
  · rw [e]
    simp only [eqB, decide_eq_true_eq] at e
    obtain ⟨rfl, rfl, e1, e2⟩ := e
    obtain rfl := nums_inj (toList_eq.1 e1)
    obtain rfl := nums_inj (toList_eq.1 e2)
    simp
  · rw [Bool.not_eq_true] at e
    rw [e, beq_eq_false_iff_ne]
    intro hl
    rw [toList_eq, nums_str b, nums_str b'] at hl
    have g := getI_put o a c m [] h ho ha hc hm
    have g' := getI_put o' a' c' m' [] h' ho' ha' hc' hm'
    rw [hl, g] at g'
    simp only [Prod.mk.injEq] at g'
    obtain ⟨⟨e1, e2, e3, e4⟩, _⟩ := g'
    simp only [eqB, decide_eq_false_iff_not] at e
    exact e ⟨e1, e2, toList_eq.2 e3, toList_eq.2 e4⟩
end Op4
end Go.Proofs.YtjblmgdjaaeedaaGreat
