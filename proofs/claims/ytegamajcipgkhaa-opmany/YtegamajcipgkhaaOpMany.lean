/- For every list of instructions the law OpMany answers true; no condition on the input. -/
import Derived.Test.YtegamajcipgkhaaRows
import Derived.Test.YtegamajcipgkhaaOpBegun
import Derived.Test.YtegamajcipgkhaaOpOpen
import Derived.Deep.RegionHeld
import Derived.Deep.CutRange
import Derived.WalkKit
import Derived.ProofKit
import Derived.OpenShut
import Derived.ShutString
import Derived.ChangeOld
import Derived.Below
namespace Go.Proofs.Ytegamajcipgkhaa
namespace OpMany
open Num Kind Op4
open Go.ChangeShapes Go.WideShapes Go.ChangeAt Go.RowKit
set_option linter.unusedVariables false
set_option linter.unusedSimpArgs false

theorem infoI : (Try.prog.info? 23).map (fun i => (i.zero, i.size, i.bytes)) = some (some (.agg #[.int .i64 0, .int .i64 0, .string ⟨#[]⟩, .string ⟨#[]⟩]), 4, 48) := by kernel_rfl

theorem news4 (w : World) (o a : Int) (c m : ByteArray) : ∀ j u, (cells4 (o, a, c, m))[j]? = some u → (w.alloc (.cells #[.int .i64 o, .int .i64 a, .string c, .string m] 23)).cell? ((⟨w.heap.size, 0, none⟩ : Addr).add j) = some u := by
  intro j u h
  rw [Addr.add_lit, Nat.zero_add, cell_new]
  simpa [cells4] using h
theorem one4 (x : I4) : ∀ u ∈ cells4 x, u.oneCell' = true := by
  intro u hu
  simp only [cells4, List.mem_cons, List.not_mem_nil, or_false] at hu
  rcases hu with rfl | rfl | rfl | rfl <;> rfl

set_option maxRecDepth 100000 in
set_option maxHeartbeats 4000000 in
theorem walk_some (b off len cap : Nat) (L : List I4) (w : World) (hlen : L.length = len) (hcap : len ≤ cap) (hmax : cap ≤ maxLen) (hok : ∀ x ∈ L, okI x) (hlt0 : b < w.heap.size)
    (hat : ∀ i (h : i < L.length), InsAt w b (off + i * 4) L[i].1 L[i].2.1 L[i].2.2.1 L[i].2.2.2) :
    Calls Try.prog 5 #[.slice (some ⟨b, off, none⟩) len cap] w fun e w' => e = .returned (.bool true) ∧ Below w.heap.size w w' := by
  obtain ⟨iI, hiI, hzI0, hzI1, hzI2⟩ := info_parts infoI
  unfold maxLen at hmax
  have HN : ∃ N, N = min len 30 := ⟨_, rfl⟩
  obtain ⟨N, hN⟩ := HN
  have HL : Hid _ := hlen
  have HAT : Hid _ := hat
  have HOK : Hid _ := hok
  clear hlen hat hok
  go_enter Try.func5, Try.ntmps5
  go_wp2_with fail
  refine (Op4.begun_any _).mono ?_
  rintro e w1 ⟨rfl, b1⟩
  go_wp2_with fail
  go_loopw [4, 5, 6, 7] (fun bv mv i _ wr => ∃ k nb : Nat, k ≤ N ∧ i = .int .i64 k ∧ nb ≤ 9000 ∧ wr.ownsRow w.heap.size 5 1 bv nb (cellsOf (fl (pickI (L.take k)))) ∧ wr.ownsRow w.heap.size 23 4 mv (pickI (L.take k)).length (cellsI (pickI (L.take k))) ∧ Below w.heap.size w wr) (fun _ _ i _ _ => N - (intOf i).toNat)
  case atStart => exact ⟨0, 0, by omega, rfl, by omega, World.ownsRow_nil _ _ _ _, World.ownsRow_nil _ _ _ _, b1⟩
  case round =>
    obtain ⟨k, nb, hk, rfl, hnb, ownB, ownM, hbel⟩ := hrel
    by_cases hlt : k < N
    · have hkL : k < L.length := by rw [HL.out]; omega
      have t1 : decide ((k : Int) < (len : Int)) = true := by simp; omega
      have t2 : decide ((k : Int) < 30) = true := by simp; omega
      obtain ⟨x0, x1, x2, x3⟩ := (HAT.out k hkL).later hbel
      have hx := HOK.out L[k] (List.getElem_mem hkL)
      have HST : Hid _ := pickI_step L k hkL
      generalize hX : L[k] = X at *
      obtain ⟨o, a, c, m⟩ := X
      obtain ⟨ho, ha, hc, hm⟩ := hx
      simp only at x0 x1 x2 x3 ho ha hc hm
      clear b1 hX
      obtain ⟨pB, cB, rfl, hB⟩ := own_shape ownB
      have sc := cutS_size c 14
      have sm := cutS_size m 12
      have hMb := ownM.lt
      go_wp2_with fail
      refine (cut_ins o a c m _ hc hm).mono ?_
      rintro e w2 ⟨rfl, b2⟩
      simp only [insV]
      have HCX : Hid (cutI (o, a, c, m) = (o, a, cutS c 14, cutS m 12)) := rfl
      generalize cutS c 14 = C at *
      generalize cutS m 12 = M at *
      have kC : C.size ≤ maxLen := by unfold maxLen; omega
      have kM : M.size ≤ maxLen := by unfold maxLen; omega
      have tC : C.size ≤ 100 := by omega
      have tM : M.size ≤ 100 := by omega
      have Z2 := Box.new w2 o a C M 23
      have e2 := (Below.refl w2.heap.size w2).alloc (Nat.le_refl _) (.cells #[.int .i64 o, .int .i64 a, .string C, .string M] 23)
      have k2 := b2.trans (e2.mono b2.size)
      have f2 := b2.size
      clear x0 x1 x2 x3 b2 e2 hc hm
      obtain ⟨_, z0, z1, z2, z3, _, _, _, _⟩ := id Z2
      go_wp2_with fail
      refine (may_ins o a C M _ kC kM).mono ?_
      rintro e w3 ⟨rfl, b3⟩
      have Z3 := Z2.later b3
      have k3 := k2.trans (b3.mono k2.size)
      have ownM3 := own_later ownM k3
      have ownB3 := own_later ownB k3
      have d3 := hbel.trans (k3.mono hbel.size)
      clear z0 z1 z2 z3 Z2 k2 b3 hB ownB ownM
      have HQ : Hid (mayI (o, a, C, M) = mayIns o a (nums C) (nums M)) := rfl
      cases hq : mayIns o a (nums C) (nums M)
      · have HF : Hid (pickI (L.take (k + 1)) = pickI (L.take k)) := by
          show _ = _
          rw [HST.out, HCX.out, HQ.out, hq]
          simp
        clear hq
        go_wp2_with fail
        go_roundw
        case rel => exact ⟨k + 1, nb, by omega, by go_num, hnb, by rw [HF.out]; exact ownB3, by rw [HF.out]; exact ownM3, d3⟩
        case measure => simp [intOf]; omega
      · have HF : Hid (pickI (L.take (k + 1)) = pickI (L.take k) ++ [(o, a, C, M)]) := by
          show _ = _
          rw [HST.out, HCX.out, HQ.out, hq]
          simp
        have hpl := pick_length (L.take k)
        rw [List.length_take] at hpl
        have hgF : ∀ x ∈ pickI (L.take (k + 1)), Op4.Good x := pick_good _ (fun x hx => HOK.out x (List.mem_of_mem_take hx))
        have hfl := fl_length (pickI (L.take (k + 1))) hgF
        have hpl2 := pick_length (L.take (k + 1))
        rw [List.length_take] at hpl2
        have hneZ : some w2.heap.size ≠ u5.ownBlock := fun e => by have := hMb _ e.symm; omega
        have hB0 : w.heap.size ≤ (w3.alloc (.cells #[.int .i64 o, .int .i64 a, .string C, .string M] 23)).heap.size := Nat.le_trans d3.size (by simp)
        have hA0 := own_apart (ownB3.alloc (.cells #[.int .i64 o, .int .i64 a, .string C, .string M] 23)) (ownM3.alloc (.cells #[.int .i64 o, .int .i64 a, .string C, .string M] 23)) (by decide)
        obtain ⟨_, z0, z1, z2, z3, _, _, _, _⟩ := id Z3
        have HQT : Hid (mayIns o a (nums C) (nums M) = true) := hq
        clear hq
        go_wp2_with (at_builtin; refine wpList_append_own _ rfl (.tmp 32) (.tmp 34) 39 rfl w.heap.size 23 iI (.agg #[.int .i64 0, .int .i64 0, .string ⟨#[]⟩, .string ⟨#[]⟩]) 4 48 Try.underlying39 hiI hzI0 hzI1 hzI2 rfl (by decide) _ (pickI (L.take k)).length (cellsI (pickI (L.take k))) rfl (ownM3.alloc _) ⟨w3.heap.size, 0, none⟩ 1 1 (cells4 (o, a, C, M)) rfl rfl (news4 w3 o a C M) (one4 (o, a, C, M)) (by unfold maxLen; omega) (by omega) hB0 ?_; intro mv' w4 ownM4 g4 _; have Z4 := (Z3.alloc (.cells #[.int .i64 o, .int .i64 a, .string C, .string M] 23)).grown g4 hneZ; obtain ⟨_, z0, z1, z2, z3, _, _, _, _⟩ := id Z4)
        have ownB4 := (ownB3.alloc (.cells #[.int .i64 o, .int .i64 a, .string C, .string M] 23)).kept g4 hA0
        have d4 := (d3.alloc d3.size (.cells #[.int .i64 o, .int .i64 a, .string C, .string M] 23)).grown g4 hB0 (fun g e => (hMb g e).1)
        obtain ⟨a', c', e, hB4⟩ := own_shape ownB4
        simp only [Value.slice.injEq, true_and] at e
        obtain ⟨rfl, rfl⟩ := e
        refine (oput_any _ _ _ _ o a C M _ hB4 ho ha tC tM (by omega) HQT.out).mono ?_
        rintro e w5 ⟨g5, c5, l, hl, rfl, own5, b5⟩
        have ownM5 := own_later ownM4 b5
        have d5 := d4.trans (b5.mono d4.size)
        have EB : fl (pickI (L.take k)) ++ putI o a C M = fl (pickI (L.take (k + 1))) := by rw [HF.out, fl_append]; simp [fl, putX]
        have EM : cellsI (pickI (L.take k)) ++ cells4 (o, a, C, M) = cellsI (pickI (L.take (k + 1))) := by rw [HF.out, cellsI_append, cellsI_one]
        have EL : (pickI (L.take k)).length + 1 = (pickI (L.take (k + 1))).length := by rw [HF.out]; simp
        rw [EB] at own5
        rw [EM, EL] at ownM5
        have hl5 := own5.1
        rw [cellsOf_length] at hl5
        have hl9 : l ≤ 9000 := by omega
        have own6 := own_low own5 d4.size
        clear hl EB EM EL hl5 hfl hpl hpl2 own5
        go_wp2_with fail
        go_roundw
        case rel => exact ⟨k + 1, l, by omega, by go_num, hl9, own6, ownM5, d5⟩
        case measure => simp [intOf]; omega
    · have hcs : ¬ (k < len ∧ k < 30) := by omega
      have hgF : ∀ x ∈ pickI (L.take k), Op4.Good x := pick_good _ (fun x hx => HOK.out x (List.mem_of_mem_take hx))
      have hpl := pick_length (L.take k)
      rw [List.length_take] at hpl
      have hpl30 : (pickI (L.take k)).length ≤ 30 := by omega
      generalize pickI (L.take k) = F at *
      obtain ⟨pB, cB, rfl, hB⟩ := own_shape ownB
      obtain ⟨am, cm, rfl⟩ : ∃ am cm, u5 = .slice am F.length cm := by
        rcases Joins.ownsRow_forms ownM with ⟨e1, e2⟩ | ⟨g, cp, e1⟩
        · exact ⟨none, 0, by rw [e1, e2]⟩
        · exact ⟨_, cp, e1⟩
      have HG : Hid _ := hgF
      clear HAT HOK HL hpl hgF ownB b1
      go_wp2_with fail
      all_goals
        go_loopw [4, 8, 9, 10, 11] (fun bv i _ _ _ wq => ∃ (q n cc : Nat) (p : Option Addr), q ≤ F.length ∧ i = .int .i64 q ∧ bv = .slice p n cc ∧ Has wq p n cc (fl (F.drop q)) ∧ wq.ownsRow w.heap.size 23 4 (.slice am F.length cm) F.length (cellsI F) ∧ Below w.heap.size w wq) (fun _ i _ _ _ _ => F.length - (intOf i).toNat)
        case atStart => exact ⟨0, nb, cB, pB, by omega, rfl, rfl, hB, ownM, hbel⟩
        case round =>
          clear hB ownM hbel
          obtain ⟨q, n, cc, p, hq, rfl, rfl, hB, ownM, hbel⟩ := hrel
          by_cases hlq : q < F.length
          · have HX := HG.out F[q] (List.getElem_mem hlq)
            have HD : Hid (fl (F.drop q) = putX F[q] ++ fl (F.drop (q + 1))) := by
              show _ = _
              rw [List.drop_eq_getElem_cons hlq, show F[q] :: F.drop (q + 1) = [F[q]] ++ F.drop (q + 1) from rfl, fl_append]
              simp [fl]
            have hgd : ∀ x ∈ F.drop q, Op4.Good x := fun x hx => HG.out x (List.mem_of_mem_drop hx)
            have hbB := fl_bytes (F.drop q) hgd
            have hlB := fl_length (F.drop q) hgd
            rw [List.length_drop] at hlB
            have hnB := hB.len
            have hcB := hB.cap
            have hmB := hB.max
            unfold maxLen at hmB
            have hn9 : n ≤ 9000 := by omega
            obtain ⟨gm, cm', em, _, _⟩ := ownM.form (by omega)
            simp only [Value.slice.injEq, true_and] at em
            obtain ⟨rfl, rfl⟩ := em
            obtain ⟨g, off', rfl, _, _⟩ := hB.cells (by have h1 := HD.out; have h2 := putI_len F[q].1 F[q].2.1 F[q].2.2.1 F[q].2.2.2 HX.c HX.m; rw [h1, List.length_append] at hnB; simp only [putX] at hnB; omega)
            have Y : InsAt wr gm (q * 4) F[q].1 F[q].2.1 F[q].2.2.1 F[q].2.2.2 := by
              have at4 : ∀ j, j < 4 → wr.cell? ⟨gm, q * 4 + j, none⟩ = (cells4 F[q])[j]? := fun j hj => by
                rw [ownM.cellAt (q * 4 + j) (by omega), cellsI_at F q j hj, List.getElem?_eq_getElem hlq]
                rfl
              exact ⟨at4 0 (by omega), at4 1 (by omega), at4 2 (by omega), at4 3 (by omega)⟩
            have HDD : Hid _ := HD.out
            generalize hX : F[q] = X at *
            obtain ⟨o, a, c, m⟩ := X
            obtain ⟨hmay, ho, ha, hc, hm⟩ := HX
            have hmay' : mayIns o a (nums c) (nums m) = true := hmay
            simp only at ho ha hc hm Y
            have HD2 : Hid (fl (F.drop q) = putI o a c m ++ fl (F.drop (q + 1))) := HDD.out
            have hpl := putI_len o a c m hc hm
            have hlen2 : n = (putI o a c m).length + (fl (F.drop (q + 1))).length := by rw [← hnB, HD2.out, List.length_append]
            have HG2 : Hid _ := getI_put o a c m (fl (F.drop (q + 1))) hmay' ho ha hc hm
            have HB : Hid _ := hB
            have HN2 : Hid _ := hlen2
            have hle : (putI o a c m).length ≤ n := by omega
            clear hmay hmay' HD HDD hX hlB hgd hnB hlen2
            generalize hLp : (putI o a c m).length = Lp at *
            go_wp2_with fail
            refine (oget_any _ n cc _ _ hB hbB (by omega)).mono ?_
            rintro e w2 ⟨rfl, b2⟩
            rw [HD2.out, HG2.out]
            simp only [resI, insV, str_nums]
            have Z2 := Box.new w2 o a c m 23
            have e2 := (Below.refl w2.heap.size w2).alloc (Nat.le_refl _) (.cells #[.int .i64 o, .int .i64 a, .string c, .string m] 23)
            have k2 := b2.trans (e2.mono b2.size)
            have Y2 := Y.later k2
            clear e2 b2 Y hB
            go_upto_region 17 with fail
            generalize w2.alloc (.cells #[.int .i64 o, .int .i64 a, .string c, .string m] 23) = W at *
            have kk : Below W.heap.size W W.drew := (Below.refl _ _).drew
            obtain ⟨_, z0, z1, z2, z3, _, _, _, _⟩ := Z2.later kk
            obtain ⟨y0, y1, y2, y3⟩ := Y2.later kk
            refine wp_region_held_drew (S := fun W' => (W'.cell? ⟨w2.heap.size, 0, none⟩ = some (.int .i64 o) ∧ W'.cell? ⟨w2.heap.size, 1, none⟩ = some (.int .i64 a) ∧ W'.cell? ⟨w2.heap.size, 2, none⟩ = some (.string c) ∧ W'.cell? ⟨w2.heap.size, 3, none⟩ = some (.string m)) ∧ (W'.cell? ⟨gm, q * 4, none⟩ = some (.int .i64 o) ∧ W'.cell? ⟨gm, q * 4 + 1, none⟩ = some (.int .i64 a) ∧ W'.cell? ⟨gm, q * 4 + 2, none⟩ = some (.string c) ∧ W'.cell? ⟨gm, q * 4 + 3, none⟩ = some (.string m))) (by kernel_rfl) ?_ (fun hHeld => ?_)
            · exact ⟨⟨z0, z1, z2, z3⟩, ⟨y0, y1, y2, y3⟩⟩
            refine wpAnyH_take (i := 0) (oi := ⟨some 51, _, _, _, _, _⟩) (v := ?_) rfl (by kernel_rfl) (by kernel_rfl) (by kernel_rfl) (fun _ _ _ h => h) (Or.inl ⟨by kernel_rfl, fun Wx hSw => ?_⟩) (by assumption) ?_
            rotate_left
            · ((try dsimp only at hSw); go_simp; try with_reducible rfl)
            simp only [Act.put, List.setIfInBounds_toArray, List.set_cons_zero, List.set_cons_succ]
            refine wpAnyH_take (i := 1) (oi := ⟨some 52, _, _, _, _, _⟩) (v := ?_) rfl (by kernel_rfl) (by kernel_rfl) (by kernel_rfl) (fun _ _ _ h => h) (Or.inl ⟨by kernel_rfl, fun Wx hSw => ?_⟩) (by assumption) ?_
            rotate_left
            · ((try dsimp only at hSw); go_simp; try with_reducible rfl)
            simp only [Act.put, List.setIfInBounds_toArray, List.set_cons_zero, List.set_cons_succ]
            refine wpAnyH_take (i := 2) (oi := ⟨some 53, _, _, _, _, _⟩) (v := ?_) rfl (by kernel_rfl) (by kernel_rfl) (by kernel_rfl) (fun _ _ _ h => h) (Or.inl ⟨by kernel_rfl, fun Wx hSw => ?_⟩) (by assumption) ?_
            rotate_left
            · ((try dsimp only at hSw); go_simp; try with_reducible rfl)
            simp only [Act.put, List.setIfInBounds_toArray, List.set_cons_zero, List.set_cons_succ]
            refine wpAnyH_take (i := 3) (oi := ⟨some 54, _, _, _, _, _⟩) (v := ?_) rfl (by kernel_rfl) (by kernel_rfl) (by kernel_rfl) (fun _ _ _ h => h) (Or.inl ⟨by kernel_rfl, fun Wx hSw => ?_⟩) (by assumption) ?_
            rotate_left
            · ((try dsimp only at hSw); go_simp; try with_reducible rfl)
            simp only [Act.put, List.setIfInBounds_toArray, List.set_cons_zero, List.set_cons_succ]
            refine wpAnyH_take (i := 4) (oi := ⟨some 55, _, _, _, _, _⟩) (v := ?_) rfl (by kernel_rfl) (by kernel_rfl) (by kernel_rfl) (fun _ _ _ h => h) (Or.inl ⟨by kernel_rfl, fun Wx hSw => ?_⟩) (by assumption) ?_
            rotate_left
            · ((try dsimp only at hSw); go_simp; try with_reducible rfl)
            simp only [Act.put, List.setIfInBounds_toArray, List.set_cons_zero, List.set_cons_succ]
            refine wpAnyH_take (i := 5) (oi := ⟨some 56, _, _, _, _, _⟩) (v := ?_) rfl (by kernel_rfl) (by kernel_rfl) (by kernel_rfl) (fun _ _ _ h => h) (Or.inl ⟨by kernel_rfl, fun Wx hSw => ?_⟩) (by assumption) ?_
            rotate_left
            · ((try dsimp only at hSw); go_simp; try with_reducible rfl)
            simp only [Act.put, List.setIfInBounds_toArray, List.set_cons_zero, List.set_cons_succ]
            refine wpAnyH_take (i := 6) (oi := ⟨some 57, _, _, _, _, _⟩) (v := ?_) rfl (by kernel_rfl) (by kernel_rfl) (by kernel_rfl) (fun _ _ _ h => h) (Or.inl ⟨by kernel_rfl, fun Wx hSw => ?_⟩) (by assumption) ?_
            rotate_left
            · ((try dsimp only at hSw); go_simp; try with_reducible rfl)
            simp only [Act.put, List.setIfInBounds_toArray, List.set_cons_zero, List.set_cons_succ]
            refine wpAnyH_take (i := 7) (oi := ⟨some 58, _, _, _, _, _⟩) (v := ?_) rfl (by kernel_rfl) (by kernel_rfl) (by kernel_rfl) (fun _ _ _ h => h) (Or.inl ⟨by kernel_rfl, fun Wx hSw => ?_⟩) (by assumption) ?_
            rotate_left
            · ((try dsimp only at hSw); go_simp; try with_reducible rfl)
            simp only [Act.put, List.setIfInBounds_toArray, List.set_cons_zero, List.set_cons_succ]
            refine wpAnyH_ready (rs := [8]) (by kernel_rfl) (by simp) ?_
            refine AllReadyH.cons (o := ⟨some 59, _, _, _, _, _⟩) rfl (fun K hK => ?_) AllReadyH.nil
            go_simp
            go_wp2_with (go_at_call 18; refine (eq_any o a c m o a c m _).mono ?_; rintro e w' ⟨rfl, b'⟩; rw [eqB_self]; have kk := kk.trans (b'.mono kk.size); obtain ⟨_, z0, z1, z2, z3, _, _, _, _⟩ := Z2.later kk; obtain ⟨y0, y1, y2, y3⟩ := Y2.later kk)
            refine hK.out _ _ ⟨⟨z0, z1, z2, z3⟩, ⟨y0, y1, y2, y3⟩⟩ (fun hHeld => ?_)
            clear hK K
            refine wpAnyH_take (i := 9) (oi := ⟨some 60, _, _, _, _, _⟩) (v := ?_) rfl (by kernel_rfl) (by kernel_rfl) (by kernel_rfl) (fun _ _ _ h => h) (Or.inl ⟨by kernel_rfl, fun Wx hSw => ?_⟩) (by assumption) ?_
            rotate_left
            · ((try dsimp only at hSw); go_simp; try with_reducible rfl)
            simp only [Act.put, List.setIfInBounds_toArray, List.set_cons_zero, List.set_cons_succ]
            refine wpAnyH_take (i := 10) (oi := ⟨some 61, _, _, _, _, _⟩) (v := ?_) rfl (by kernel_rfl) (by kernel_rfl) (by kernel_rfl) (fun _ _ _ h => h) (Or.inl ⟨by kernel_rfl, fun Wx hSw => ?_⟩) (by assumption) ?_
            rotate_left
            · ((try dsimp only at hSw); go_simp; try with_reducible rfl)
            simp only [Act.put, List.setIfInBounds_toArray, List.set_cons_zero, List.set_cons_succ]
            refine wpAnyH_take (i := 11) (oi := ⟨some 62, _, _, _, _, _⟩) (v := ?_) rfl (by kernel_rfl) (by kernel_rfl) (by kernel_rfl) (fun _ _ _ h => h) (Or.inl ⟨by kernel_rfl, fun Wx hSw => ?_⟩) (by assumption) ?_
            rotate_left
            · ((try dsimp only at hSw); go_simp; try with_reducible rfl)
            simp only [Act.put, List.setIfInBounds_toArray, List.set_cons_zero, List.set_cons_succ]
            refine wpAnyH_take (i := 12) (oi := ⟨some 63, _, _, _, _, _⟩) (v := ?_) rfl (by kernel_rfl) (by kernel_rfl) (by kernel_rfl) (fun _ _ _ h => h) (Or.inl ⟨by kernel_rfl, fun Wx hSw => ?_⟩) (by assumption) ?_
            rotate_left
            · ((try dsimp only at hSw); go_simp; try with_reducible rfl)
            simp only [Act.put, List.setIfInBounds_toArray, List.set_cons_zero, List.set_cons_succ]
            refine wpAnyH_take (i := 13) (oi := ⟨some 64, _, _, _, _, _⟩) (v := ?_) rfl (by kernel_rfl) (by kernel_rfl) (by kernel_rfl) (fun _ _ _ h => h) (Or.inl ⟨by kernel_rfl, fun Wx hSw => ?_⟩) (by assumption) ?_
            rotate_left
            · ((try dsimp only at hSw); go_simp; try with_reducible rfl)
            simp only [Act.put, List.setIfInBounds_toArray, List.set_cons_zero, List.set_cons_succ]
            refine wpAnyH_take (i := 14) (oi := ⟨some 65, _, _, _, _, _⟩) (v := ?_) rfl (by kernel_rfl) (by kernel_rfl) (by kernel_rfl) (fun _ _ _ h => h) (Or.inl ⟨by kernel_rfl, fun Wx hSw => ?_⟩) (by assumption) ?_
            rotate_left
            · ((try dsimp only at hSw); go_simp; try with_reducible rfl)
            simp only [Act.put, List.setIfInBounds_toArray, List.set_cons_zero, List.set_cons_succ]
            refine wpAnyH_take (i := 15) (oi := ⟨some 66, _, _, _, _, _⟩) (v := ?_) rfl (by kernel_rfl) (by kernel_rfl) (by kernel_rfl) (fun _ _ _ h => h) (Or.inl ⟨by kernel_rfl, fun Wx hSw => ?_⟩) (by assumption) ?_
            rotate_left
            · ((try dsimp only at hSw); go_simp; try with_reducible rfl)
            simp only [Act.put, List.setIfInBounds_toArray, List.set_cons_zero, List.set_cons_succ]
            refine wpAnyH_take (i := 16) (oi := ⟨some 67, _, _, _, _, _⟩) (v := ?_) rfl (by kernel_rfl) (by kernel_rfl) (by kernel_rfl) (fun _ _ _ h => h) (Or.inl ⟨by kernel_rfl, fun Wx hSw => ?_⟩) (by assumption) ?_
            rotate_left
            · ((try dsimp only at hSw); go_simp; try with_reducible rfl)
            simp only [Act.put, List.setIfInBounds_toArray, List.set_cons_zero, List.set_cons_succ]
            refine wpAnyH_done (by kernel_rfl) ?_ _
            have kf := k2.trans (kk.mono k2.size)
            have ownF := own_later ownM kf
            have dF := hbel.trans (kf.mono hbel.size)
            have hBF := HB.out.later kf
            clear ownM hbel Z2 Y2 kk k2 kf z0 z1 z2 z3 y0 y1 y2 y3
            by_cases hcc : cc = Lp
            · have hnil : fl (F.drop (q + 1)) = [] := List.eq_nil_of_length_eq_zero (by have := HN2.out; omega)
              have hnL : n = Lp := by omega
              subst hcc
              subst hnL
              go_wp2_with fail
              go_roundw
              case rel => exact ⟨q + 1, 0, 0, _, by omega, by go_num, rfl, by rw [hnil]; exact ⟨rfl, Nat.le_refl _, Nat.zero_le _, fun e => (by cases e), fun h => absurd h (by omega)⟩, ownF, dF⟩
              case measure => simp [intOf]; omega
            · have hdr := hBF.drop Lp hle
              rw [HD2.out, ← hLp, List.drop_left, hLp] at hdr
              go_wp2_with fail
              go_roundw
              case rel => exact ⟨q + 1, n - Lp, cc - Lp, _, by omega, by go_num, rfl, hdr, ownF, dF⟩
              case measure => simp [intOf]; omega
          · have hqF : q = F.length := by omega
            have hn0 : n = 0 := by have := hB.len; rw [hqF, List.drop_length] at this; simpa [fl] using this.symm
            subst hn0
            subst hqF
            go_wp2_with fail
            go_ret
            exact ⟨rfl, hbel⟩

set_option maxHeartbeats 1000000 in
theorem walk_none (a : Option Addr) (cap : Nat) (w : World) :
    Calls Try.prog 5 #[.slice a 0 cap] w fun e w' => e = .returned (.bool true) ∧ Below w.heap.size w w' := by
  go_enter Try.func5, Try.ntmps5
  go_wp2_with fail
  refine (Op4.begun_any _).mono ?_
  rintro e w1 ⟨rfl, b1⟩
  go_wp2_with fail
  refine wp_loop_rounds 1 ?_
  rw [rounds_succ]
  go_wp2_with fail
  refine wp_loop_rounds 1 ?_
  rw [rounds_succ]
  go_wp2_with fail
  go_ret
  exact ⟨rfl, b1⟩

theorem walk (a : Option Addr) (len cap : Nat) (L : List I4) (w : World) (h : IsIns w a len cap L) :
    Calls Try.prog 5 #[.slice a len cap] w fun e w' => e = .returned (.bool true) ∧ Below w.heap.size w w' := by
  obtain ⟨h1, h2, h3, h4, h5⟩ := h
  rcases Nat.eq_zero_or_pos len with h0 | h0
  · subst h0
    exact walk_none a cap w
  · obtain ⟨b, off, rfl, hlt, hat⟩ := h5 h0
    exact walk_some b off len cap L w h1 h2 h3 h4 hlt hat

/-! ### The row -/
theorem own : ownKnob Try.prog.godebug = none := by kernel_rfl
theorem laidOut : laidOutB Try.prog = true := by kernel_rfl
set_option maxRecDepth 100000 in
theorem lifted (os : Os) (started : os.Started) (H : Type) (enc : TypeId × Value → H) :
    ReturnsInHanded {} Try.checked os 5 .any (Rows.opManySpec.pre6 enc Try.prog Try.f5 Rows.opManyRow.domain false) (Rows.opManySpec.post enc Try.prog Try.f5 false true false false) := by
  refine returnsInHanded_of_change (C := Try.checked) own started (by kernel_rfl) Try.func5
    (ChangeSpec.witness6 (enc := enc) (C := Try.checked) false ⟨#[], #[.slice none 0 0], []⟩ 8 (by kernel_rfl) (by kernel_rfl) (by kernel_rfl) (by kernel_rfl)) ?_
  intro W base args ds gs before hval0 hW hcnd _
  have hval : ∀ (j : Nat) t v, Try.f5.params[j]? = some t → args[j]? = some v → Value.okWide Try.prog W .any base t v := hval0
  have hW' := hW
  obtain ⟨p, q, hA0, hV, rfl, hfz, hnd⟩ := hW
  have hA : DataW.TrodAll enc Try.prog W 0 (fun _ => true) true Try.f5.params.toList args.toList ds p := hA0
  rw [Try.params5] at hA hval
  obtain ⟨v0, vs0, d0, ds0, p0, q0, hargs, rfl, rfl, h0, r0⟩ := trodAll_cons hA
  obtain ⟨rfl, rfl, rfl⟩ := trodAll_nil r0
  obtain rfl : args = #[v0] := by cases args; simp_all
  obtain ⟨rfl, rfl⟩ := trodVars_none hV
  obtain ⟨a0, len0, cap0, rfl⟩ := okWide_slice Try.underlying39 (hval 0 39 v0 rfl rfl)
  have k0 := h0
  have lt0 : ∀ x ∈ p0, x.block < W.heap.size := by obtain ⟨m, hm⟩ := k0; exact DataW.trod_lt m _ _ _ hm
  obtain ⟨z0, w0⟩ : ∃ L, IsIns W a0 len0 cap0 L := by
    obtain ⟨fuel, hf⟩ := h0
    obtain ⟨a, l, c, L, e, hL⟩ := open_ins hf
    simp [Value.cells] at e
    obtain ⟨rfl, rfl, rfl⟩ := e
    exact ⟨L, hL⟩
  clear hA0 hval0
  refine (walk a0 len0 cap0 z0 W w0).mono fun e W' ⟨he, bel⟩ => ?_
  subst he
  exact ⟨_, rfl, _, _, _, [], _, [], hW', trodAll_mk1 (shut_bool Try.underlying4 _), (trodAll_cons_mk (Below.trod laidOut (by kernel_rfl) (of_decide_eq_true (by kernel_rfl)) k0 bel lt0) trodAll_mk0), rfl, bel.frame _, fun h => by cases h⟩

theorem over : Rows.opManyRow.holds Try.pinned (OpenSpec.ofChange Rows.opManySpec) :=
  OpenClaim.holds_of_wide 5 Try.f5 rfl rfl rfl rfl rfl rfl rfl ⟨rfl, rfl, rfl, rfl, rfl⟩ rfl rfl rfl rfl rfl (by kernel_rfl) Try.func5 (by kernel_rfl)
    (of_decide_eq_true (by kernel_rfl)) (by unfold Func.isWrapper; first | (rw [if_pos (by decide +kernel)]; kernel_rfl) | (rw [if_neg (by decide +kernel)]; exact ⟨rfl, rfl⟩))
    (fun os started H enc _ => lifted os started H enc)

end OpMany

theorem opMany_holds : Rows.OpManySaid := OpMany.over
#print axioms opMany_holds
end Go.Proofs.Ytegamajcipgkhaa
