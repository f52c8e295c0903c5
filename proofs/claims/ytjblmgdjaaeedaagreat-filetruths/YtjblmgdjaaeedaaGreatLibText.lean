/- The contracts of num.PutText, num.Four. -/
import Derived.Test.YtjblmgdjaaeedaaGreatLibPut
import Derived.Test.YtjblmgdjaaeedaaGreatLibGet
namespace Go.Proofs.YtjblmgdjaaeedaaGreat
namespace Num
open Go.RowKit
set_option linter.unusedVariables false
set_option maxRecDepth 100000

def encT (s : ByteArray) : List Int := enc s.size ++ nums s
theorem encT_length (s : ByteArray) : (encT s).length = (enc s.size).length + s.size := by rw [encT, List.length_append, nums_length]

theorem put_text (a : Option Addr) (n c : Nat) (xs : List Int) (s : ByteArray) (w : World) (h : Has w a n c xs) (hsz : n + 10 + s.size ≤ 140737488355328) :
    Calls Tryz.prog 57 #[.slice a n c, .string s] w fun e w' => ∃ g cap, e = .returned (.slice (some ⟨g, 0, none⟩) (n + (encT s).length) cap) ∧
      w'.ownsRow w.heap.size 5 1 (.slice (some ⟨g, 0, none⟩) (n + (encT s).length) cap) (n + (encT s).length) (cellsOf (xs ++ encT s)) ∧ Below w.heap.size w w' := by
  obtain ⟨i0, hi, hz0, hz1, hz2⟩ := info_parts info8
  have hN : Is64 s.size := by unfold Is64; omega
  have hl := enc_len s.size
  go_enter Tryz.func57, Tryz.ntmps57
  go_wp2_with fail
  refine (copy_any a n c xs _ (10 + s.size) _ h (by omega) (by omega)).mono ?_
  rintro e w1 ⟨rfl, hown1, hb1⟩
  go_wp2_with fail
  refine (append_any w.heap.size w.heap.size n (n + (10 + s.size)) xs s.size _ hN hb1.size (by omega) hown1).mono ?_
  rintro e w2 ⟨g, cap, rfl, hown2, hb2⟩
  have hb12 := hb1.trans hb2
  go_wp2_with (at_builtin; go_must (refine wpList_str _ rfl _ _ 29 9 rfl w.heap.size 5 i0 Tryz.underlying29 Tryz.underlying9 hi hz0 hz1 hz2 _ _ _ rfl hown2 s rfl (by omega) (by omega) hb12.size ?_; intro g' cap' w3 hown3 hgrow3))
  have hb3 : Below w.heap.size w w3 := hb12.grown hgrow3 hb12.size (fun k e => by cases e; exact (hown2.lt g rfl).1)
  have e1 : n + (enc s.size).length + s.size = n + (encT s).length := by rw [encT_length]; omega
  have e2 : xs ++ enc s.size ++ nums s = xs ++ encT s := by simp [encT]
  rw [e2, e1] at hown3
  go_ret
  exact ⟨g', cap', by simp [e1], hown3, hb3⟩

/-- What GetText finds: the text's bytes, how many bytes it took, which error. -/
def getText (xs : List Int) : List Int × Int × Int :=
  if (get xs).2.2 ≠ 0 then ([], 0, (get xs).2.2)
  else if (get xs).1 < 0 ∨ 1048576 < (get xs).1 then ([], 0, 1)
  else if (xs.length : Int) < (get xs).2.1 + (get xs).1 then ([], 0, 2)
  else ((xs.drop (get xs).2.1.toNat).take (get xs).1.toNat, (get xs).2.1 + (get xs).1, 0)
def resT (r : List Int × Int × Int) : Value := .tuple #[.string (strOfNums r.1), .int .i64 r.2.1, .int .i64 r.2.2]

set_option maxHeartbeats 400000 in
theorem get_text (a : Option Addr) (n c : Nat) (xs : List Int) (w : World) (h : Has w a n c xs) (hb : Bytes xs) (hnn : n ≤ 4611686018427387904) :
    Calls Tryz.prog 94 #[.slice a n c] w fun e w' => e = .returned (resT (getText xs)) ∧ w = w' := by
  have HG := get_any a n c xs w h hb
  have HB : Hid _ := get_bd xs hb
  have HO : Hid _ := getF_ok xs 0 0
  change Hid ((get xs).2.2 = 0 → 1 ≤ (get xs).2.1) at HO
  have hlen := h.len
  have hcap := h.cap
  have hmax := h.max
  unfold maxLen at hmax
  by_cases hE : (get xs).2.2 = 0
  · by_cases hR : (get xs).1 < 0 ∨ 1048576 < (get xs).1
    · have hv : getText xs = ([], 0, 1) := by unfold getText; rw [if_neg (by simp [hE]), if_pos hR]
      rw [hv]
      have hne : ((get xs).2.2 != 0) = false := by simp [hE]
      generalize get xs = r at *
      obtain ⟨N, K, E⟩ := r
      simp only at hE hR hne
      clear hE
      rcases hR with hR | hR
      all_goals
        go_enter Tryz.func94, Tryz.ntmps94
        go_wp2_with fail
        refine HG.mono ?_
        rintro e w1 ⟨rfl, rfl⟩
        simp only [resG]
        go_wp2_with fail
        go_ret3
        exact ⟨rfl, rfl⟩
    · by_cases hL : (xs.length : Int) < (get xs).2.1 + (get xs).1
      · have hv : getText xs = ([], 0, 2) := by unfold getText; rw [if_neg (by simp [hE]), if_neg hR, if_pos hL]
        rw [hv]
        have hne : ((get xs).2.2 != 0) = false := by simp [hE]
        rw [hlen] at hL
        have hB := HB.out
        rw [hlen] at hB
        generalize get xs = r at *
        obtain ⟨N, K, E⟩ := r
        simp only at hE hR hne hL hB
        obtain ⟨hB1, hB2, hB3, hB4⟩ := hB
        have hR1 : 0 ≤ N := by omega
        have hR2 : N ≤ 1048576 := by omega
        clear hE hR
        go_enter Tryz.func94, Tryz.ntmps94
        go_wp2_with fail
        refine HG.mono ?_
        rintro e w1 ⟨rfl, rfl⟩
        simp only [resG]
        go_wp2_with fail
        go_ret3
        exact ⟨rfl, rfl⟩
      · have hv : getText xs = ((xs.drop (get xs).2.1.toNat).take (get xs).1.toNat, (get xs).2.1 + (get xs).1, 0) := by unfold getText; rw [if_neg (by simp [hE]), if_neg hR, if_neg hL]
        rw [hv]
        have hne : ((get xs).2.2 != 0) = false := by simp [hE]
        rw [hlen] at hL
        have hB := HB.out
        have hO := HO.out
        rw [hlen] at hB
        generalize get xs = r at *
        obtain ⟨N, K, E⟩ := r
        simp only at hE hR hne hL hB hO
        obtain ⟨hB1, hB2, hB3, hB4⟩ := hB
        have hR1 : 0 ≤ N := by omega
        have hR2 : N ≤ 1048576 := by omega
        have hK1 := hO hE
        obtain ⟨nn, rfl⟩ := Int.eq_ofNat_of_zero_le hR1
        obtain ⟨kk, rfl⟩ := Int.eq_ofNat_of_zero_le hB2
        simp only [Int.toNat_natCast]
        have hkn : kk + nn ≤ n := by omega
        obtain ⟨b, off, rfl, hlt, hc⟩ := h.cells (by omega)
        clear hE hR hO hv HB HO hc
        by_cases hck : c = kk
        · obtain rfl : nn = 0 := by omega
          subst hck
          have hs : Has w (some ⟨b, off, none⟩) 0 0 [] := ⟨rfl, Nat.le_refl _, Nat.zero_le _, fun e => (by cases e), fun e => absurd e (by omega)⟩
          have hst := hs.str
          have e0 : ((c : Int) + ((0 : Nat) : Int)) = c := by simp
          simp only [List.take_zero]
          rw [e0]
          clear hs e0 hR1 hR2 hB1 hB4
          go_enter Tryz.func94, Tryz.ntmps94
          go_wp2_with fail
          refine HG.mono ?_
          rintro e w1 ⟨rfl, rfl⟩
          simp only [resG]
          go_wp2_with fail
          go_ret3
          exact ⟨rfl, rfl⟩
        · have hst := ((h.drop kk (by omega)).take nn (by omega)).str
          go_enter Tryz.func94, Tryz.ntmps94
          go_wp2_with fail
          refine HG.mono ?_
          rintro e w1 ⟨rfl, rfl⟩
          simp only [resG]
          go_wp2_with fail
          go_ret3
          exact ⟨rfl, rfl⟩
  · have hv : getText xs = ([], 0, (get xs).2.2) := by unfold getText; rw [if_pos hE]
    rw [hv]
    have hne : ((get xs).2.2 != 0) = true := bne_iff_ne.2 hE
    generalize get xs = r at *
    go_enter Tryz.func94, Tryz.ntmps94
    go_wp2_with fail
    refine HG.mono ?_
    rintro e w1 ⟨rfl, rfl⟩
    simp only [resG]
    go_wp2_with fail
    go_ret3
    exact ⟨rfl, rfl⟩
end Num
end Go.Proofs.YtjblmgdjaaeedaaGreat
