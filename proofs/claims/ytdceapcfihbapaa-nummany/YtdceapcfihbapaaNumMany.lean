/- For every list of numbers the law NumMany answers true: numbers written one behind the other are told one by one; no condition on the input. -/
import Derived.Test.YtdceapcfihbapaaRows
import Derived.Test.YtdceapcfihbapaaNumBegun
import Derived.WalkKit
import Derived.ProofKit
import Derived.OpenShut
import Derived.ShutString
import Derived.ChangeOld
import Derived.Below
namespace Go.Proofs.Ytdceapcfihbapaa
namespace NumMany
open Num
open Go.ChangeShapes Go.WideShapes Go.ChangeAt Go.RowKit
open Go.ChangeMaps (open_string shut_string)
set_option linter.unusedVariables false

def encAll : List Int → List Int
  | [] => []
  | x :: r => enc x ++ encAll r
theorem encAll_append (a b : List Int) : encAll (a ++ b) = encAll a ++ encAll b := by
  induction a with
  | nil => rfl
  | cons x a ih => simp [encAll, ih]
theorem encAll_snoc {ls : List Int} {k : Nat} (hk : k < ls.length) : encAll (ls.take (k + 1)) = encAll (ls.take k) ++ enc (ls.getD k 0) := by
  rw [List.take_succ_eq_append_getElem hk, encAll_append]
  simp [encAll, List.getD, List.getElem?_eq_getElem hk]
theorem encAll_head {ls : List Int} {k : Nat} (hk : k < ls.length) : encAll (ls.drop k) = enc (ls.getD k 0) ++ encAll (ls.drop (k + 1)) := by
  rw [drop_step hk]; rfl
theorem encAll_len : ∀ (ls : List Int), (encAll ls).length ≤ 10 * ls.length
  | [] => by simp [encAll]
  | x :: r => by
    have h1 := encAll_len r
    have h2 := (enc_len x).2
    simp only [encAll, List.length_append, List.length_cons]
    omega
theorem encAll_bytes : ∀ (ls : List Int), (∀ x ∈ ls, Is64 x) → Bytes (encAll ls)
  | [], _ => by intro x hx; simp [encAll] at hx
  | y :: r, h => by
    intro x hx
    rcases List.mem_append.1 hx with hx | hx
    · exact enc_bd y (h y (by simp)) x hx
    · exact encAll_bytes r (fun z hz => h z (by simp [hz])) x hx
theorem getD64 {ls : List Int} (h : ∀ x ∈ ls, Is64 x) {k : Nat} (hk : k < ls.length) : Is64 (ls.getD k 0) := by
  have := h (ls[k]) (List.getElem_mem hk)
  simpa [List.getD, List.getElem?_eq_getElem hk] using this

set_option maxRecDepth 100000 in
set_option maxHeartbeats 2000000 in
theorem walk_empty (a : Option Addr) (cap : Nat) (w : World) :
    Calls Try.prog 4 #[.slice a 0 cap] w fun e w' => e = .returned (.bool true) ∧ Below w.heap.size w w' := by
  go_enter Try.func4, Try.ntmps4
  go_wp2_with fail
  refine (begun_any _).mono ?_
  rintro e w1 ⟨rfl, b1⟩
  go_wp2_with fail
  refine wp_loop_rounds 1 ?_
  rw [rounds_succ]
  go_wp2_with fail
  refine wp_loop_rounds 1 ?_
  rw [rounds_succ]
  go_wp2_with fail
  go_ret
  exact ⟨rfl, b1⟩

/-- What is left behind a number that was told, whatever the capacity. -/
theorem Has_cut {w : World} {b off n c k : Nat} {xs : List Int} (h : Has w (some ⟨b, off, none⟩) n c xs) (hk : k ≤ n) (hc : c = k) : Has w (some ⟨b, off, none⟩) (n - k) 0 (xs.drop k) := by
  have := h.cap
  have := h.len
  refine ⟨by rw [List.length_drop, h.len], by omega, Nat.zero_le _, fun e => (by cases e), fun h0 => absurd h0 (by omega)⟩

set_option maxRecDepth 100000 in
set_option maxHeartbeats 2000000 in
theorem walk_short (b0 off n cap m : Nat) (ls : List Int) (w : World) (hm : n ≤ 40 ∧ m = n) (hnc : n ≤ cap) (hcm : cap ≤ maxLen) (hl : ls.length = m) (h64 : ∀ x ∈ ls, Is64 x) (hb0 : b0 < w.heap.size)
    (hc : ∀ i, i < m → w.cell? ⟨b0, off + i, none⟩ = some (.int .i64 (ls.getD i 0))) :
    Calls Try.prog 4 #[.slice (some ⟨b0, off, none⟩) n cap] w fun e w' => e = .returned (.bool true) ∧ Below w.heap.size w w' := by
  unfold maxLen at hcm
  have HL : Hid (ls.length = m) := hl
  clear hl
  obtain ⟨hm, rfl⟩ := hm
  have hmb : decide ((40 : Int) < (m : Int)) = false := by simp; omega
  go_enter Try.func4, Try.ntmps4
  go_wp2_with fail
  refine (begun_any _).mono ?_
  rintro e w1 ⟨rfl, b1⟩
  go_wp2_with fail
  go_loopw [4, 5] (fun v i wr => ∃ (k n' c' : Nat) (a' : Option Addr), k ≤ m ∧ i = .int .i64 k ∧ v = .slice a' n' c' ∧ Has wr a' n' c' (encAll (ls.take k)) ∧ Below w.heap.size w wr) (fun _ i _ => m - (intOf i).toNat)
  case atStart => exact ⟨0, 0, 0, none, by omega, rfl, rfl, by simpa [encAll] using Has.none w1, b1⟩
  case round =>
    obtain ⟨k, n', c', a', hk, rfl, rfl, hH, hbel⟩ := hrel
    by_cases hlt : k < m
    · have hcell : wr.cell? ⟨b0, off + k, none⟩ = some (.int .i64 (ls.getD k 0)) := (hbel.cell (p := ⟨b0, off + k, none⟩) hb0).trans (hc k hlt)
      have hx := getD64 h64 (show k < ls.length by rw [HL.out]; exact hlt)
      have hsn := encAll_snoc (show k < ls.length by rw [HL.out]; exact hlt)
      have HS : Hid _ := hsn
      have hlen := hH.len
      have hle := encAll_len (ls.take k)
      have hkl : (ls.take k).length ≤ k := List.length_take_le _ _
      have hn' : n' ≤ 400 := by omega
      clear hsn hlen hle hkl
      generalize ls.getD k 0 = x at *
      go_wp2_with fail
      refine (put_any a' n' c' (encAll (ls.take k)) x _ hH hx (by omega)).mono ?_
      rintro e w2 ⟨g2, c2, rfl, o2, b2⟩
      have d2 : Below w.heap.size w w2 := hbel.trans (b2.mono hbel.size)
      have h2 := Has.own o2
      rw [← HS.out] at h2
      clear o2 b2 hH hcell hbel
      go_wp2_with fail
      go_roundw
      case rel => exact ⟨k + 1, _, _, _, by omega, by go_num, rfl, h2, d2⟩
      case measure => simp [intOf]; omega
    · have hkm : m = k := by omega
      subst hkm
      rw [List.take_of_length_le (by rw [HL.out]; exact Nat.le_refl _)] at hH
      have hc2 : ∀ i, i < m → wr.cell? ⟨b0, off + i, none⟩ = some (.int .i64 (ls.getD i 0)) := fun i hi => (hbel.cell (p := ⟨b0, off + i, none⟩) hb0).trans (hc i hi)
      clear hlt b1 hc hk
      go_wp2_with fail
      go_loop [4, 6, 7, 8, 9] (fun v i _ _ _ => ∃ (k n' c' : Nat) (a' : Option Addr), k ≤ m ∧ i = .int .i64 k ∧ v = .slice a' n' c' ∧ Has wr a' n' c' (encAll (ls.drop k))) (fun _ i _ _ _ => m - (intOf i).toNat)
      case atStart => exact ⟨0, n', c', a', by omega, rfl, rfl, hH⟩
      case round =>
        clear hH
        obtain ⟨k, n', c', a', hk, rfl, rfl, hH⟩ := hrel
        by_cases hlt : k < m
        · have hcell := hc2 k hlt
          have hkl : k < ls.length := by rw [HL.out]; exact hlt
          have hx := getD64 h64 hkl
          have hd := encAll_head hkl
          rw [hd] at hH
          have hlen := hH.len
          rw [List.length_append] at hlen
          have hel := enc_len (ls.getD k 0)
          obtain ⟨b2, off2, rfl, _, _⟩ := hH.cells (by omega)
          have hby : Bytes (enc (ls.getD k 0) ++ encAll (ls.drop (k + 1))) := by rw [← hd]; exact encAll_bytes _ (fun y hy => h64 y (List.mem_of_mem_drop hy))
          have hcp := hH.cap
          have hmx := hH.max
          unfold maxLen at hmx
          clear hd hc2 hkl
          have hxx : (ls.getD k 0 != ls.getD k 0) = false := by simp
          have hnl : (enc (ls.getD k 0)).length ≤ n' := by omega
          have HN : Hid _ := hlen
          clear hlen
          generalize ls.getD k 0 = x at *
          by_cases hck : c' = (enc x).length
          · have hH2 := Has_cut hH hnl hck
            rw [List.drop_left, show n' - (enc x).length = 0 by omega] at hH2
            subst hck
            go_wp2_with fail
            refine (get_any _ _ _ _ _ hH hby).mono ?_
            rintro e w3 ⟨rfl, rfl⟩
            rw [get_enc x _ hx]
            simp only [resG]
            clear hH hby
            go_wp2_with fail
            go_round
            case rel => exact ⟨k + 1, _, _, _, by omega, by go_num, rfl, hH2⟩
            case measure => simp [intOf]; omega
          · have hH2 := hH.drop (enc x).length hnl
            rw [List.drop_left] at hH2
            go_wp2_with fail
            refine (get_any _ _ _ _ _ hH hby).mono ?_
            rintro e w3 ⟨rfl, rfl⟩
            rw [get_enc x _ hx]
            simp only [resG]
            clear hH hby
            go_wp2_with fail
            go_round
            case rel => exact ⟨k + 1, _, _, _, by omega, by go_num, rfl, hH2⟩
            case measure => simp [intOf]; omega
        · have hkm : m = k := by omega
          subst hkm
          have hn0 := hH.len
          rw [List.drop_eq_nil_of_le (by rw [HL.out]; exact Nat.le_refl _)] at hn0
          have hn1 : n' = 0 := by simpa [encAll] using hn0.symm
          subst hn1
          clear hn0 hH hlt hc2
          go_wp2_with fail
          go_ret
          exact ⟨rfl, hbel⟩

set_option maxRecDepth 100000 in
set_option maxHeartbeats 2000000 in
theorem walk_long (b0 off n cap m : Nat) (ls : List Int) (w : World) (hm : 40 < n ∧ m = 40) (hnc : n ≤ cap) (hcm : cap ≤ maxLen) (hl : ls.length = m) (h64 : ∀ x ∈ ls, Is64 x) (hb0 : b0 < w.heap.size)
    (hc : ∀ i, i < m → w.cell? ⟨b0, off + i, none⟩ = some (.int .i64 (ls.getD i 0))) :
    Calls Try.prog 4 #[.slice (some ⟨b0, off, none⟩) n cap] w fun e w' => e = .returned (.bool true) ∧ Below w.heap.size w w' := by
  unfold maxLen at hcm
  have HL : Hid (ls.length = m) := hl
  clear hl
  obtain ⟨hm, rfl⟩ := hm
  have hmb : decide ((40 : Int) < (n : Int)) = true := by simp; omega
  go_enter Try.func4, Try.ntmps4
  go_wp2_with fail
  refine (begun_any _).mono ?_
  rintro e w1 ⟨rfl, b1⟩
  go_wp2_with fail
  go_loopw [4, 5] (fun v i wr => ∃ (k n' c' : Nat) (a' : Option Addr), k ≤ 40 ∧ i = .int .i64 k ∧ v = .slice a' n' c' ∧ Has wr a' n' c' (encAll (ls.take k)) ∧ Below w.heap.size w wr) (fun _ i _ => 40 - (intOf i).toNat)
  case atStart => exact ⟨0, 0, 0, none, by omega, rfl, rfl, by simpa [encAll] using Has.none w1, b1⟩
  case round =>
    obtain ⟨k, n', c', a', hk, rfl, rfl, hH, hbel⟩ := hrel
    by_cases hlt : k < 40
    · have hcell : wr.cell? ⟨b0, off + k, none⟩ = some (.int .i64 (ls.getD k 0)) := (hbel.cell (p := ⟨b0, off + k, none⟩) hb0).trans (hc k hlt)
      have hx := getD64 h64 (show k < ls.length by rw [HL.out]; exact hlt)
      have hsn := encAll_snoc (show k < ls.length by rw [HL.out]; exact hlt)
      have HS : Hid _ := hsn
      have hlen := hH.len
      have hle := encAll_len (ls.take k)
      have hkl : (ls.take k).length ≤ k := List.length_take_le _ _
      have hn' : n' ≤ 400 := by omega
      clear hsn hlen hle hkl
      generalize ls.getD k 0 = x at *
      go_wp2_with fail
      refine (put_any a' n' c' (encAll (ls.take k)) x _ hH hx (by omega)).mono ?_
      rintro e w2 ⟨g2, c2, rfl, o2, b2⟩
      have d2 : Below w.heap.size w w2 := hbel.trans (b2.mono hbel.size)
      have h2 := Has.own o2
      rw [← HS.out] at h2
      clear o2 b2 hH hcell hbel
      go_wp2_with fail
      go_roundw
      case rel => exact ⟨k + 1, _, _, _, by omega, by go_num, rfl, h2, d2⟩
      case measure => simp [intOf]; omega
    · have hkm : 40 = k := by omega
      subst hkm
      rw [List.take_of_length_le (by rw [HL.out]; exact Nat.le_refl _)] at hH
      have hc2 : ∀ i, i < 40 → wr.cell? ⟨b0, off + i, none⟩ = some (.int .i64 (ls.getD i 0)) := fun i hi => (hbel.cell (p := ⟨b0, off + i, none⟩) hb0).trans (hc i hi)
      clear hlt b1 hc hk
      go_wp2_with fail
      go_loop [4, 6, 7, 8, 9] (fun v i _ _ _ => ∃ (k n' c' : Nat) (a' : Option Addr), k ≤ 40 ∧ i = .int .i64 k ∧ v = .slice a' n' c' ∧ Has wr a' n' c' (encAll (ls.drop k))) (fun _ i _ _ _ => 40 - (intOf i).toNat)
      case atStart => exact ⟨0, n', c', a', by omega, rfl, rfl, hH⟩
      case round =>
        clear hH
        obtain ⟨k, n', c', a', hk, rfl, rfl, hH⟩ := hrel
        by_cases hlt : k < 40
        · have hcell := hc2 k hlt
          have hkl : k < ls.length := by rw [HL.out]; exact hlt
          have hx := getD64 h64 hkl
          have hd := encAll_head hkl
          rw [hd] at hH
          have hlen := hH.len
          rw [List.length_append] at hlen
          have hel := enc_len (ls.getD k 0)
          obtain ⟨b2, off2, rfl, _, _⟩ := hH.cells (by omega)
          have hby : Bytes (enc (ls.getD k 0) ++ encAll (ls.drop (k + 1))) := by rw [← hd]; exact encAll_bytes _ (fun y hy => h64 y (List.mem_of_mem_drop hy))
          have hcp := hH.cap
          have hmx := hH.max
          unfold maxLen at hmx
          clear hd hc2 hkl
          have hxx : (ls.getD k 0 != ls.getD k 0) = false := by simp
          have hnl : (enc (ls.getD k 0)).length ≤ n' := by omega
          have HN : Hid _ := hlen
          clear hlen
          generalize ls.getD k 0 = x at *
          by_cases hck : c' = (enc x).length
          · have hH2 := Has_cut hH hnl hck
            rw [List.drop_left, show n' - (enc x).length = 0 by omega] at hH2
            subst hck
            go_wp2_with fail
            refine (get_any _ _ _ _ _ hH hby).mono ?_
            rintro e w3 ⟨rfl, rfl⟩
            rw [get_enc x _ hx]
            simp only [resG]
            clear hH hby
            go_wp2_with fail
            go_round
            case rel => (refine ⟨trivial, ?_⟩; (repeat apply Exists.intro); exact ⟨⟨k + 1, _, _, _, by omega, by go_num, rfl, hH2⟩, rfl⟩)
            case measure => simp [intOf]; omega
          · have hH2 := hH.drop (enc x).length hnl
            rw [List.drop_left] at hH2
            go_wp2_with fail
            refine (get_any _ _ _ _ _ hH hby).mono ?_
            rintro e w3 ⟨rfl, rfl⟩
            rw [get_enc x _ hx]
            simp only [resG]
            clear hH hby
            go_wp2_with fail
            go_round
            case rel => (refine ⟨trivial, ?_⟩; (repeat apply Exists.intro); exact ⟨⟨k + 1, _, _, _, by omega, by go_num, rfl, hH2⟩, rfl⟩)
            case measure => simp [intOf]; omega
        · have hkm : 40 = k := by omega
          subst hkm
          have hn0 := hH.len
          rw [List.drop_eq_nil_of_le (by rw [HL.out]; exact Nat.le_refl _)] at hn0
          have hn1 : n' = 0 := by simpa [encAll] using hn0.symm
          subst hn1
          clear hn0 hH hlt hc2
          go_wp2_with fail
          go_ret
          exact ⟨rfl, hbel⟩

theorem walk (a : Option Addr) (len cap : Nat) (z : List Int) (w : World) (w0 : IsRow .i64 w a len cap z) :
    Calls Try.prog 4 #[.slice a len cap] w fun e w' => e = .returned (.bool true) ∧ Below w.heap.size w w' := by
  rcases Nat.eq_zero_or_pos len with h0 | h0
  · subst h0
    exact walk_empty a cap w
  · rcases w0 with ⟨_, h, _, _⟩ | ⟨x, rfl, hl, hm, hz, hc, hw⟩
    · omega
    · obtain ⟨b, off, rfl, hcc⟩ := ints_at hc (by omega)
      have hb0 : b < w.heap.size := World.block_lt_of_cell? w ⟨b, off + 0, none⟩ (hcc 0 (by omega))
      have key : ∀ m, m ≤ len → (∀ x ∈ z.take m, Is64 x) ∧ (z.take m).length = m ∧ (∀ i, i < m → w.cell? ⟨b, off + i, none⟩ = some (.int .i64 ((z.take m).getD i 0))) := by
        intro m hm'
        refine ⟨fun x hx => bounds_i64 (hw x (List.mem_of_mem_take hx)), by rw [List.length_take]; omega, fun i hi => ?_⟩
        rw [hcc i (by omega)]
        simp [List.getD, hi]
      by_cases h40 : len ≤ 40
      · obtain ⟨k1, k2, k3⟩ := key len (Nat.le_refl _)
        exact walk_short b off len cap len (z.take len) w ⟨h40, rfl⟩ hl hm k2 k1 hb0 k3
      · obtain ⟨k1, k2, k3⟩ := key 40 (by omega)
        exact walk_long b off len cap 40 (z.take 40) w ⟨by omega, rfl⟩ hl hm k2 k1 hb0 k3

/-! ### The row -/
theorem own : ownKnob Try.prog.godebug = none := by kernel_rfl
theorem laidOut : laidOutB Try.prog = true := by kernel_rfl
set_option maxRecDepth 100000 in
theorem lifted (os : Os) (started : os.Started) (H : Type) (enc : TypeId × Value → H) :
    ReturnsInHanded {} Try.checked os 4 .any (Rows.numManySpec.pre6 enc Try.prog Try.f4 Rows.numManyRow.domain false) (Rows.numManySpec.post enc Try.prog Try.f4 false true false false) := by
  refine returnsInHanded_of_change (C := Try.checked) own started (by kernel_rfl) Try.func4
    (ChangeSpec.witness6 (enc := enc) (C := Try.checked) false ⟨#[], #[.slice none 0 0], []⟩ 8 (by kernel_rfl) (by kernel_rfl) (by kernel_rfl) (by kernel_rfl)) ?_
  intro W base args ds gs before hval0 hW hcnd _
  have hval : ∀ (j : Nat) t v, Try.f4.params[j]? = some t → args[j]? = some v → Value.okWide Try.prog W .any base t v := hval0
  have hW' := hW
  obtain ⟨p, q, hA0, hV, rfl, hfz, hnd⟩ := hW
  have hA : DataW.TrodAll enc Try.prog W 0 (fun _ => true) true Try.f4.params.toList args.toList ds p := hA0
  rw [Try.params4] at hA hval
  obtain ⟨v0, vs0, d0, ds0, p0, q0, hargs, rfl, rfl, h0, r0⟩ := trodAll_cons hA
  obtain ⟨rfl, rfl, rfl⟩ := trodAll_nil r0
  obtain rfl : args = #[v0] := by cases args; simp_all
  obtain ⟨rfl, rfl⟩ := trodVars_none hV
  obtain ⟨a0, len0, cap0, rfl⟩ := okWide_slice Try.underlying39 (hval 0 39 v0 rfl rfl)
  have k0 := h0
  have lt0 : ∀ x ∈ p0, x.block < W.heap.size := by obtain ⟨m, hm⟩ := k0; exact DataW.trod_lt m _ _ _ hm
  obtain ⟨z0, w0⟩ : ∃ zs, IsRow .i64 W a0 len0 cap0 zs := by
    obtain ⟨fuel, hf⟩ := h0
    rcases open_ints Try.underlying39 Try.underlying2 (by kernel_rfl) hf with ⟨hcs, _⟩ | ⟨x, l, c, zs, hcs, _, hl, hm, hz, _, hcell, hwz⟩
    · simp [Value.cells] at hcs
      obtain ⟨rfl, rfl, rfl⟩ := hcs
      exact ⟨[], .inl ⟨rfl, rfl, rfl, rfl⟩⟩
    · simp [Value.cells] at hcs
      obtain ⟨rfl, rfl, rfl⟩ := hcs
      exact ⟨zs, .inr ⟨_, rfl, hl, hm, by simpa using hz, hcell, hwz⟩⟩
  clear hA0 hval0
  refine (walk a0 len0 cap0 z0 W w0).mono fun e W' ⟨he, bel⟩ => ?_
  subst he
  exact ⟨_, rfl, _, _, _, [], _, [], hW', trodAll_mk1 (shut_bool Try.underlying4 _), (trodAll_cons_mk (Below.trod laidOut (by kernel_rfl) (of_decide_eq_true (by kernel_rfl)) k0 bel lt0) trodAll_mk0), rfl, bel.frame _, fun h => by cases h⟩

theorem over : Rows.numManyRow.holds Try.pinned (OpenSpec.ofChange Rows.numManySpec) :=
  OpenClaim.holds_of_wide 4 Try.f4 rfl rfl rfl rfl rfl rfl rfl ⟨rfl, rfl, rfl, rfl, rfl⟩ rfl rfl rfl rfl rfl (by kernel_rfl) Try.func4 (by kernel_rfl)
    (of_decide_eq_true (by kernel_rfl)) (by unfold Func.isWrapper; first | (rw [if_pos (by decide +kernel)]; kernel_rfl) | (rw [if_neg (by decide +kernel)]; exact ⟨rfl, rfl⟩))
    (fun os started H enc _ => lifted os started H enc)

end NumMany

theorem numMany_holds : Rows.NumManySaid := NumMany.over
#print axioms numMany_holds
end Go.Proofs.Ytdceapcfihbapaa
