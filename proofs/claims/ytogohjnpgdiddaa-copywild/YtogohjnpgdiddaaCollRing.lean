/- Objects in a ring, and objects that name one: what lives of them (no program in it). -/
import Derived.Test.YtogohjnpgdiddaaCollNum
import Derived.Test.YtogohjnpgdiddaaCollSays
namespace Go.Proofs.Ytogohjnpgdiddaa
namespace Coll
open Heap
set_option linter.unusedVariables false
set_option linter.unusedSimpArgs false

theorem posN_at (N : List No) (i : Nat) (q : List Nat) : ∀ p : List Nat, i ∉ p → posN N (p ++ i :: q) i = ((p.map fun b => (N.getD b ⟨0, []⟩).ws.length + 2).sum)
  | [], h => by simp [posN]
  | b :: r, h => by
    rw [List.cons_append, posN, if_neg (fun e => h (by simp [e])), posN_at N i q r (fun e => h (by simp [e]))]
    simp
theorem posN_nth (N : List No) (I : List Nat) (hn : I.Nodup) (s : Nat) (hs : s < I.length) : posN N I I[s] = (((I.take s).map fun b => (N.getD b ⟨0, []⟩).ws.length + 2).sum) := by
  have e : I = I.take s ++ I[s] :: I.drop (s + 1) := by rw [← List.drop_eq_getElem_cons hs, List.take_append_drop]
  have hni : I[s] ∉ I.take s := by
    intro h
    have h2 := hn
    rw [e, List.nodup_append] at h2
    exact h2.2.2 _ h _ List.mem_cons_self rfl
  generalize hx : I[s] = x at *
  generalize I.take s = p at *
  rw [e]
  exact posN_at N x _ p hni
theorem sum_same (l : List Nat) (g : Nat → Nat) (c : Nat) (h : ∀ b ∈ l, g b = c) : (l.map g).sum = c * l.length := by
  induction l with
  | nil => simp
  | cons b r ih => rw [List.map_cons, List.sum_cons, h b (by simp), ih (fun b hb => h b (by simp [hb])), List.length_cons, Nat.mul_add, Nat.mul_one, Nat.add_comm]
theorem getD_range (n : Nat) (g : Nat → No) (i : Nat) (hi : i < n) : (((List.range n).map g).getD i ⟨0, []⟩) = g i := by simp [List.getD, hi]

/-! ### A ring -/
def nx (n i : Nat) : Nat := if i + 1 < n then i + 1 else 0
def rot (n r i : Nat) : Nat := if r + i < n then r + i else r + i - n
def ringN (n : Nat) : List No := (List.range n).map fun i => ⟨2, [nx n i + 1]⟩
def ringO (n m : Nat) : List Ob := (List.range n).map fun i => ⟨2, [if i < m then ((3 * nx n i + 1 : Nat) : Int) else 0]⟩
def rotI (n r m : Nat) : List Nat := (List.range m).map (rot n r)
theorem ring_len (n : Nat) : (ringN n).length = n := by simp [ringN]
theorem ring_ok (n : Nat) : NOk (ringN n) := by
  constructor
  · intro o ho; simp only [ringN, List.mem_map] at ho; obtain ⟨i, _, rfl⟩ := ho; simp
  · intro o ho; simp only [ringN, List.mem_map] at ho; obtain ⟨i, _, rfl⟩ := ho; simp
  · intro o ho x hx
    simp only [ringN, List.mem_map, List.mem_range] at ho
    obtain ⟨i, hi, rfl⟩ := ho
    simp only [List.mem_singleton] at hx
    rw [ring_len]
    unfold nx at hx
    split at hx <;> omega
theorem ring_pl (n i : Nat) (hi : i ≤ n) : plN (ringN n) i = 3 * i := by
  unfold plN ringN
  rw [← List.map_take, List.map_map, List.take_range, Nat.min_eq_left hi]
  refine (sum_same _ _ 3 (fun b _ => rfl)).trans ?_
  rw [List.length_range]
theorem ring_laid (n : Nat) : laidO refsB (ringN n) = ringO n n := by
  have hpl := ring_pl n
  unfold laidO ringO
  generalize hN : ringN n = N at *
  conv => lhs; arg 2; rw [← hN, ringN]
  rw [List.map_map]
  apply List.map_congr_left
  intro i hi
  have hi := List.mem_range.1 hi
  have h1 : nx n i + 1 - 1 ≤ n := by unfold nx; split <;> omega
  simp only [Function.comp, laidN, List.mapIdx_cons, List.mapIdx_nil, wordN]
  rw [if_pos ⟨by decide, by omega⟩, if_pos hi, hpl _ h1]
  simp
theorem rot_inj {n r i j : Nat} (hr : r < n) (hi : i < n) (hj : j < n) (h : rot n r i = rot n r j) : i = j := by
  unfold rot at h
  split at h <;> split at h <;> omega
theorem rot_lt {n r i : Nat} (hr : r < n) (hi : i < n) : rot n r i < n := by
  unfold rot; split <;> omega
theorem nx_rot {n r i : Nat} (hr : r < n) (hi : i < n) : nx n (rot n r i) = rot n r (nx n i) := by
  unfold nx rot
  repeat' split
  all_goals omega
theorem ring_clo (n r : Nat) (hr : r < n) : ∀ (d j F : Nat), j + 1 + d = n → n ≤ F + j → cloI refsB (ringN n) F j (rotI n r (j + 1)) = rotI n r n := by
  intro d
  induction d with
  | zero =>
    intro j F hj hF
    obtain ⟨F, rfl⟩ : ∃ G, F = G + 1 := ⟨F - 1, by omega⟩
    have hb : (rotI n r (j + 1))[j]? = some (rot n r j) := by simp [rotI]
    have ho : (ringN n)[rot n r j]? = some ⟨2, [nx n (rot n r j) + 1]⟩ := by
      have := rot_lt hr (show j < n by omega)
      simp [ringN, this]
    rw [clo_next hb ho]
    have hs : scanI (refsB 2) [nx n (rot n r j) + 1] (rotI n r (j + 1)) 1 = rotI n r (j + 1) := by
      rw [scanI, scanI]
      rw [if_pos ⟨by decide, by simp⟩]
      simp only [List.getD_cons_zero, Nat.add_sub_cancel]
      unfold addI
      rw [if_pos]
      rw [nx_rot hr (by omega)]
      unfold rotI
      rw [List.mem_map]
      exact ⟨nx n j, by rw [List.mem_range]; unfold nx; split <;> omega, rfl⟩
    rw [show ([nx n (rot n r j) + 1] : List Nat).length = 1 from rfl, hs]
    rw [clo_end (by simp [rotI])]
    rw [← hj]
  | succ d ih =>
    intro j F hj hF
    obtain ⟨F, rfl⟩ : ∃ G, F = G + 1 := ⟨F - 1, by omega⟩
    have hb : (rotI n r (j + 1))[j]? = some (rot n r j) := by simp [rotI]
    have ho : (ringN n)[rot n r j]? = some ⟨2, [nx n (rot n r j) + 1]⟩ := by
      have := rot_lt hr (show j < n by omega)
      simp [ringN, this]
    rw [clo_next hb ho]
    have hs : scanI (refsB 2) [nx n (rot n r j) + 1] (rotI n r (j + 1)) 1 = rotI n r (j + 1 + 1) := by
      rw [scanI, scanI]
      rw [if_pos ⟨by decide, by simp⟩]
      simp only [List.getD_cons_zero, Nat.add_sub_cancel]
      have hnx : nx n j = j + 1 := by unfold nx; rw [if_pos (by omega)]
      unfold addI
      rw [nx_rot hr (by omega), hnx, if_neg]
      · unfold rotI
        rw [List.range_succ (n := j + 1), List.map_append]
        rfl
      · unfold rotI
        rw [List.mem_map]
        rintro ⟨i, hi, e⟩
        have hi := List.mem_range.1 hi
        have := rot_inj hr (by omega) (by omega) e
        omega
    rw [show ([nx n (rot n r j) + 1] : List Nat).length = 1 from rfl, hs]
    exact ih (j + 1) F (by omega) (by omega)
theorem ring_live (n r : Nat) (hr : r < n) : liveI refsB (ringN n) [(r : Int)] = rotI n r n := by
  unfold liveI
  have h1 : rootI [(r : Int)] ([(r : Int)] : List Int).length = rotI n r (0 + 1) := by
    show rootI [(r : Int)] 1 = _
    rw [rootI, rootI]
    simp [addI, rotI, rot, hr]
  rw [h1]
  refine ring_clo n r hr (n - 1) 0 _ (by omega) ?_
  have := two_len' (laidO refsB (ringN n))
  rw [laid_len, ring_len] at this
  omega
where
  two_len' (os : List Ob) : 2 * os.length ≤ (wordsO os).length := by
    induction os with
    | nil => simp
    | cons o r ih => rw [wordsO_cons, List.length_append, obW_len, List.length_cons]; omega
theorem ring_pos (n r s : Nat) (hr : r < n) (hs : s < n) : posN (ringN n) (rotI n r n) (rot n r s) = 3 * s := by
  have hn : (rotI n r n).Nodup := by
    unfold rotI
    rw [List.Nodup, List.pairwise_map]
    refine List.Pairwise.imp_of_mem ?_ (List.nodup_range (n := n))
    intro a b ha hb hab e
    exact hab (rot_inj hr (List.mem_range.1 ha) (List.mem_range.1 hb) e)
  have hl : s < (rotI n r n).length := by simpa [rotI] using hs
  have := posN_nth (ringN n) (rotI n r n) hn s hl
  rw [show (rotI n r n)[s] = rot n r s by simp [rotI]] at this
  rw [this, sum_same _ _ 3, List.length_take]
  · rw [show (rotI n r n).length = n by simp [rotI], Nat.min_eq_left (by omega)]
  · intro b hb
    have hb := List.mem_of_mem_take hb
    unfold rotI at hb
    rw [List.mem_map] at hb
    obtain ⟨i, hi, rfl⟩ := hb
    rw [ringN, getD_range n _ _ (rot_lt hr (List.mem_range.1 hi))]
    rfl
theorem ring_copy (n r : Nat) (hr : r < n) : copyO refsB (ringN n) (rotI n r n) = ringO n n := by
  unfold copyO ringO
  conv => lhs; arg 2; rw [rotI]
  rw [List.map_map]
  apply List.map_congr_left
  intro i hi
  have hi := List.mem_range.1 hi
  have hnn : nx n i < n := by unfold nx; split <;> omega
  simp only [Function.comp]
  rw [show (ringN n).getD (rot n r i) ⟨0, []⟩ = ⟨2, [nx n (rot n r i) + 1]⟩ by rw [ringN, getD_range n _ _ (rot_lt hr hi)]]
  simp only [copyN, List.mapIdx_cons, List.mapIdx_nil, Nat.add_sub_cancel]
  rw [if_pos ⟨by decide, by omega⟩, if_pos hi, nx_rot hr hi, ring_pos n r _ hr hnn]
  simp
/-- All of a ring in one: what Copy of any one of them comes to. -/
theorem ring_all (n r : Nat) (hr : r < n) : (live refsB (ringO n n) [((3 * r : Nat) : Int)]).map (turnO refsB (ringO n n) (live refsB (ringO n n) [((3 * r : Nat) : Int)])) = ringO n n ∧ [((3 * r : Nat) : Int)].map (placeR (ringO n n) (live refsB (ringO n n) [((3 * r : Nat) : Int)])) = [0] ∧ total (ringO n n) (live refsB (ringO n n) [((3 * r : Nat) : Int)]) = 3 * n := by
  have hR : ∀ x ∈ [(r : Int)], x < ((ringN n).length : Int) := fun x hx => by rw [ring_len]; simp at hx; omega
  have e0 : [(r : Int)].map (rootP (ringN n)) = [((3 * r : Nat) : Int)] := by
    simp only [List.map_cons, List.map_nil, rootP]
    rw [if_pos (by omega), Int.toNat_natCast, ring_pl n r (by omega)]
  have h1 := copy_idx refsB (ringN n) (ring_ok n) [(r : Int)] hR
  have h2 := places_idx refsB (ringN n) (ring_ok n) [(r : Int)] hR
  have h3 := total_idx refsB (ringN n) (ring_ok n) [(r : Int)] hR
  rw [e0, ring_laid, ring_live n r hr] at h1 h2 h3
  refine ⟨by rw [h1, ring_copy n r hr], ?_, ?_⟩
  · rw [h2]
    have := ring_pos n r 0 hr (by omega)
    rw [show rot n r 0 = r by simp [rot, hr]] at this
    simp only [List.map_cons, List.map_nil]
    rw [if_pos (by omega), Int.toNat_natCast, this]
    rfl
  · rw [h3, sum_same _ _ 3]
    · simp [rotI]
    · intro b hb
      unfold rotI at hb
      rw [List.mem_map] at hb
      obtain ⟨i, hi, rfl⟩ := hb
      rw [ringN, getD_range n _ _ (rot_lt hr (List.mem_range.1 hi))]
      rfl
end Coll
end Go.Proofs.Ytogohjnpgdiddaa
