/- What the document says of classes as bytes (no program in it): how each part is written, how it is read. -/
import Derived.Test.YtjblmgdjaaeedaaGreatClsMay
import Derived.Test.YtjblmgdjaaeedaaGreatLibMore
namespace Go.Proofs.YtjblmgdjaaeedaaGreat
namespace Fil
open Num Kind Op4 Cls
set_option linter.unusedVariables false
set_option maxRecDepth 100000

structure WS where
  pool : List ByteArray
  out : List Int
/-- Where a text stands in the pool; its length, if it does not. -/
def idx : List ByteArray → ByteArray → Nat
  | [], _ => 0
  | x :: r, t => if x = t then 0 else idx r t + 1
def wN (n : Int) (s : WS) : WS := ⟨s.pool, s.out ++ enc n⟩
def wB (b : Bool) (s : WS) : WS := wN (if b then 1 else 0) s
def wT (t : ByteArray) (s : WS) : WS := ⟨if idx s.pool t < s.pool.length then s.pool else s.pool ++ [t], s.out ++ enc (idx s.pool t)⟩
def wL {α : Type} (f : α → WS → WS) (l : List α) (s : WS) : WS := l.foldl (fun s x => f x s) (wN l.length s)
def wF (f : FieldL) (s : WS) : WS := wB f.static (wT f.type (wT f.name s))
def wI (x : InsL) (s : WS) : WS := wT x.m (wT x.c (wN x.a (wN x.o s)))
def wX (x : MapL) (s : WS) : WS := wL wT x.stack (wL wT x.locals (wN x.at' s))
def wR (t : TrapL) (s : WS) : WS := wT t.c (wN t.at' (wN t.to (wN t.from' s)))
def wM1 (m : MethL) (s : WS) : WS := wN m.stack (wN m.locals (wB m.abstract (wB m.static (wT m.ret (wL wT m.params (wT m.name s))))))
def wM (m : MethL) (s : WS) : WS := wL wR m.traps (wL wX m.maps (wL wI m.code (wM1 m s)))
def wC (c : ClsL) (s : WS) : WS := wL wM c.methods (wL wF c.fields (wL wT c.impl (wB c.iface (wT c.super (wT c.name s)))))
def poolB (p : List ByteArray) : List Int := p.flatMap encT
def magic : List Int := [74, 65, 86, 65]
def whole (s : WS) : List Int := magic ++ enc s.pool.length ++ poolB s.pool ++ s.out
def bytesL (c : ClsL) : List Int := whole (wC c ⟨[], []⟩)

def rN (r : List Int) : Int × List Int := ((get r).1, r.drop (get r).2.1.toNat)
def rP (r : List Int) : ByteArray × List Int := (strOfNums (getText r).1, r.drop (getText r).2.1.toNat)
def rT (P : List ByteArray) (r : List Int) : ByteArray × List Int := (if 0 ≤ (rN r).1 ∧ (rN r).1 < P.length then P.getD (rN r).1.toNat ⟨#[]⟩ else ⟨#[]⟩, (rN r).2)
def rB (r : List Int) : Bool × List Int := ((rN r).1 == 1, (rN r).2)
def rQ (r : List Int) : Nat × List Int := (if (rN r).1 < 0 ∨ ((rN r).2.length : Int) < (rN r).1 then 0 else (rN r).1.toNat, (rN r).2)
def rK {α : Type} (f : List Int → α × List Int) : Nat → List Int → List α × List Int
  | 0, r => ([], r)
  | k + 1, r => ((f r).1 :: (rK f k (f r).2).1, (rK f k (f r).2).2)
def rL {α : Type} (f : List Int → α × List Int) (r : List Int) : List α × List Int := rK f (rQ r).1 (rQ r).2
/-- One reading behind another. -/
def rThen {α β : Type} (f : List Int → α × List Int) (k : α → List Int → β × List Int) (r : List Int) : β × List Int := k (f r).1 (f r).2
theorem rThen_eq {α β : Type} {f : List Int → α × List Int} {k : α → List Int → β × List Int} {r r' : List Int} {a : α} (h : f r = (a, r')) : rThen f k r = k a r' := by
  unfold rThen
  rw [h]
def rF (P : List ByteArray) : List Int → FieldL × List Int :=
  rThen (rT P) fun a => rThen (rT P) fun b => rThen rB fun c r => (⟨a, b, c⟩, r)
def rI (P : List ByteArray) : List Int → InsL × List Int :=
  rThen rN fun a => rThen rN fun b => rThen (rT P) fun c => rThen (rT P) fun d r => (⟨a, b, c, d⟩, r)
def rX (P : List ByteArray) : List Int → MapL × List Int :=
  rThen rN fun a => rThen (rL (rT P)) fun b => rThen (rL (rT P)) fun c r => (⟨a, b, c⟩, r)
def rR (P : List ByteArray) : List Int → TrapL × List Int :=
  rThen rN fun a => rThen rN fun b => rThen rN fun c => rThen (rT P) fun d r => (⟨a, b, c, d⟩, r)
def rM (P : List ByteArray) : List Int → MethL × List Int :=
  rThen (rT P) fun a => rThen (rL (rT P)) fun b => rThen (rT P) fun c => rThen rB fun d => rThen rB fun e => rThen rN fun f => rThen rN fun g =>
    rThen (rL (rI P)) fun h => rThen (rL (rX P)) fun i => rThen (rL (rR P)) fun j r => (⟨a, b, c, d, e, f, g, h, i, j⟩, r)
def rC (P : List ByteArray) : List Int → ClsL × List Int :=
  rThen (rT P) fun a => rThen (rT P) fun b => rThen rB fun c => rThen (rL (rT P)) fun d => rThen (rL (rF P)) fun e => rThen (rL (rM P)) fun f r => (⟨a, b, c, d, e, f⟩, r)
def readL (xs : List Int) : ClsL :=
  let r := if magic.isPrefixOf xs then xs.drop 4 else xs
  let p := rL rP r
  (rC p.1 p.2).1

/-! ### Read behind written -/
theorem idx_le (p : List ByteArray) (t : ByteArray) : idx p t ≤ p.length := by
  induction p with
  | nil => exact Nat.le_refl _
  | cons x r ih =>
    unfold idx
    split
    · exact Nat.zero_le _
    · simp; omega
theorem idx_get (p : List ByteArray) (t : ByteArray) (h : idx p t < p.length) : p[idx p t]? = some t := by
  induction p with
  | nil => simp at h
  | cons x r ih =>
    unfold idx at h ⊢
    split
    · next e => simp [e]
    · next e =>
      rw [if_neg e] at h
      simp at h ⊢
      simpa using ih h
/-- One part's bytes: they lie behind what was written, the pool only grows, and whoever has the whole pool reads the part. -/
def Step {α : Type} (s s' : WS) (rd : List ByteArray → List Int → α × List Int) (x : α) : Prop :=
  ∃ bs, s'.out = s.out ++ bs ∧ 1 ≤ bs.length ∧ s.pool <+: s'.pool ∧ ∀ P r, s'.pool <+: P → P.length ≤ 1000000000000 → rd P (bs ++ r) = (x, r)
def Good {α : Type} (g : WS → WS) (rd : List ByteArray → List Int → α × List Int) (x : α) : Prop := ∀ s : WS, Step s (g s) rd x
theorem rN_enc (n : Int) (r : List Int) (h : Is64 n) : rN (enc n ++ r) = (n, r) := by
  unfold rN
  rw [get_enc n r h]
  simp
theorem good_n (n : Int) (h : Is64 n) : Good (wN n) (fun _ => rN) n := fun s =>
  ⟨enc n, rfl, (enc_len n).1, List.prefix_refl _, fun P r _ _ => rN_enc n r h⟩
theorem good_b (b : Bool) : Good (wB b) (fun _ => rB) b := fun s => by
  refine ⟨enc (if b then 1 else 0), rfl, (enc_len _).1, List.prefix_refl _, fun P r _ _ => ?_⟩
  show rB _ = _
  unfold rB
  rw [rN_enc _ r (by cases b <;> unfold Is64 <;> decide)]
  cases b <;> rfl
theorem good_t (t : ByteArray) : Good (wT t) rT t := fun s => by
  refine ⟨enc (idx s.pool t), rfl, (enc_len _).1, ?_, fun P r hP hl => ?_⟩
  · unfold wT
    dsimp only
    split
    · exact List.prefix_refl _
    · exact List.prefix_append _ _
  · have hle := idx_le s.pool t
    have hat : P[idx s.pool t]? = some t := by
      obtain ⟨q, rfl⟩ := hP
      unfold wT
      dsimp only
      split
      · next h =>
        rw [List.getElem?_append_left h]
        exact idx_get _ _ h
      · next h =>
        have e : idx s.pool t = s.pool.length := by omega
        rw [e, List.append_assoc, List.getElem?_append_right (Nat.le_refl _)]
        simp
    have hlt : idx s.pool t < P.length := (List.getElem?_eq_some_iff.1 hat).1
    unfold rT
    rw [rN_enc _ r (by unfold Is64; omega)]
    dsimp only
    rw [if_pos (by omega)]
    simp [List.getD, hat]
theorem Step.then {α β : Type} {s s1 s2 : WS} {rd : List ByteArray → List Int → α × List Int} {k : List ByteArray → α → List Int → β × List Int} {x : α} {y : β} (h : Step s s1 rd x) (h' : Step s1 s2 (fun P => k P x) y) :
    Step s s2 (fun P => rThen (rd P) (k P)) y := by
  obtain ⟨b1, e1, l1, p1, q1⟩ := h
  obtain ⟨b2, e2, l2, p2, q2⟩ := h'
  refine ⟨b1 ++ b2, by rw [e2, e1, List.append_assoc], by simp; omega, p1.trans p2, fun P r hP hl => ?_⟩
  rw [List.append_assoc]
  show rThen (rd P) (k P) _ = _
  rw [rThen_eq (q1 P _ (p2.trans hP) hl)]
  exact q2 P r hP hl
theorem Step.end {α β : Type} {s s1 : WS} {rd : List ByteArray → List Int → α × List Int} {x : α} {mk : α → β} {y : β} (h : Step s s1 rd x) (e : mk x = y) : Step s s1 (fun P => rThen (rd P) (fun a r => (mk a, r))) y := by
  obtain ⟨b1, e1, l1, p1, q1⟩ := h
  refine ⟨b1, e1, l1, p1, fun P r hP hl => ?_⟩
  show rThen (rd P) _ _ = _
  rw [rThen_eq (q1 P r hP hl), e]
theorem good_fold {α : Type} (f : α → WS → WS) (rd : List ByteArray → List Int → α × List Int) : ∀ (l : List α), (∀ x ∈ l, Good (f x) rd x) → ∀ s : WS,
    ∃ bs, (l.foldl (fun s x => f x s) s).out = s.out ++ bs ∧ l.length ≤ bs.length ∧ s.pool <+: (l.foldl (fun s x => f x s) s).pool ∧ ∀ P r, (l.foldl (fun s x => f x s) s).pool <+: P → P.length ≤ 1000000000000 → rK (rd P) l.length (bs ++ r) = (l, r)
  | [], _, s => ⟨[], by simp, Nat.le_refl _, List.prefix_refl _, fun P r _ _ => rfl⟩
  | x :: l, h, s => by
    obtain ⟨b1, e1, l1, p1, q1⟩ := h x (List.mem_cons_self) s
    obtain ⟨b2, e2, l2, p2, q2⟩ := good_fold f rd l (fun y hy => h y (List.mem_cons_of_mem _ hy)) (f x s)
    refine ⟨b1 ++ b2, by rw [List.foldl_cons, e2, e1, List.append_assoc], by simp; omega, p1.trans p2, fun P r hP hl => ?_⟩
    rw [List.foldl_cons] at hP
    rw [List.append_assoc]
    show ((rd P (b1 ++ (b2 ++ r))).1 :: (rK (rd P) l.length (rd P (b1 ++ (b2 ++ r))).2).1, (rK (rd P) l.length (rd P (b1 ++ (b2 ++ r))).2).2) = _
    rw [q1 P (b2 ++ r) (p2.trans hP) hl]
    dsimp only
    rw [q2 P r hP hl]
theorem good_l {α : Type} (f : α → WS → WS) (rd : List ByteArray → List Int → α × List Int) (l : List α) (hl : l.length ≤ 1000000000000) (h : ∀ x ∈ l, Good (f x) rd x) : Good (wL f l) (fun P => rL (rd P)) l := fun s => by
  obtain ⟨b2, e2, l2, p2, q2⟩ := good_fold f rd l h (wN l.length s)
  refine ⟨enc l.length ++ b2, ?_, ?_, p2, fun P r hP hl => ?_⟩
  · unfold wL
    rw [e2]
    simp [wN]
  · have := (enc_len l.length).1
    simp
    omega
  · show rL (rd P) _ = _
    unfold rL rQ
    rw [List.append_assoc, rN_enc _ _ (by unfold Is64; omega)]
    dsimp only
    rw [if_neg (by simp; omega)]
    simpa using q2 P r hP hl

/-! ### Parts of a class that may be -/
def okT (t : ByteArray) : Prop := t.size ≤ 100
def okI (x : InsL) : Prop := Is64 x.o ∧ Is64 x.a ∧ okT x.c ∧ okT x.m
def okX (x : MapL) : Prop := Is64 x.at' ∧ x.locals.length ≤ 1000 ∧ x.stack.length ≤ 1000 ∧ (∀ t ∈ x.locals, okT t) ∧ ∀ t ∈ x.stack, okT t
def okR (t : TrapL) : Prop := Is64 t.from' ∧ Is64 t.to ∧ Is64 t.at' ∧ okT t.c
def okF (f : FieldL) : Prop := okT f.name ∧ okT f.type
def okM (m : MethL) : Prop := okT m.name ∧ okT m.ret ∧ Is64 m.locals ∧ Is64 m.stack ∧ (m.params.length ≤ 1000 ∧ ∀ t ∈ m.params, okT t) ∧ (m.code.length ≤ 1000 ∧ ∀ x ∈ m.code, okI x) ∧ (m.maps.length ≤ 1000 ∧ ∀ x ∈ m.maps, okX x) ∧ (m.traps.length ≤ 1000 ∧ ∀ x ∈ m.traps, okR x)
def okC (c : ClsL) : Prop := okT c.name ∧ okT c.super ∧ (c.impl.length ≤ 1000 ∧ ∀ t ∈ c.impl, okT t) ∧ (c.fields.length ≤ 1000 ∧ ∀ x ∈ c.fields, okF x) ∧ (c.methods.length ≤ 1000 ∧ ∀ x ∈ c.methods, okM x)
theorem good_f (f : FieldL) : Good (wF f) rF f := fun s => by
  unfold rF
  exact (good_t f.name s).then ((good_t f.type _).then ((good_b f.static _).end rfl))
theorem good_i (x : InsL) (h : okI x) : Good (wI x) rI x := fun s => by
  unfold rI
  exact (good_n x.o h.1 s).then ((good_n x.a h.2.1 _).then ((good_t x.c _).then ((good_t x.m _).end rfl)))
theorem good_ts (l : List ByteArray) (h : l.length ≤ 1000) : Good (wL wT l) (fun P => rL (rT P)) l := good_l wT rT l (by omega) (fun t _ => good_t t)
theorem good_x (x : MapL) (h : okX x) : Good (wX x) rX x := fun s => by
  unfold rX
  exact (good_n x.at' h.1 s).then ((good_ts x.locals h.2.1 _).then ((good_ts x.stack h.2.2.1 _).end rfl))
theorem good_r (x : TrapL) (h : okR x) : Good (wR x) rR x := fun s => by
  unfold rR
  exact (good_n x.from' h.1 s).then ((good_n x.to h.2.1 _).then ((good_n x.at' h.2.2.1 _).then ((good_t x.c _).end rfl)))
theorem good_m (m : MethL) (h : okM m) : Good (wM m) rM m := fun s => by
  obtain ⟨h1, h2, h3, h4, h5, h6, h7, h8⟩ := h
  unfold rM
  exact (good_t m.name s).then ((good_ts m.params h5.1 _).then ((good_t m.ret _).then ((good_b m.static _).then ((good_b m.abstract _).then ((good_n m.locals h3 _).then ((good_n m.stack h4 _).then
    ((good_l wI rI m.code (by omega) (fun x hx => good_i x (h6.2 x hx)) _).then ((good_l wX rX m.maps (by omega) (fun x hx => good_x x (h7.2 x hx)) _).then
    ((good_l wR rR m.traps (by omega) (fun x hx => good_r x (h8.2 x hx)) _).end rfl)))))))))
theorem good_c (c : ClsL) (h : okC c) : Good (wC c) rC c := fun s => by
  obtain ⟨h1, h2, h3, h4, h5⟩ := h
  unfold rC
  exact (good_t c.name s).then ((good_t c.super _).then ((good_b c.iface _).then ((good_ts c.impl h3.1 _).then
    ((good_l wF rF c.fields (by omega) (fun x _ => good_f x) _).then ((good_l wM rM c.methods (by omega) (fun x hx => good_m x (h5.2 x hx)) _).end rfl)))))

/-! ### The pool's texts are short; it is no longer than what is written; what is written is not too long -/
/-- A part adds at most K bytes, no more texts than bytes, short texts alone. -/
def Adds (g : WS → WS) (K : Nat) : Prop := ∀ s : WS, (∀ t ∈ s.pool, okT t) → (∀ t ∈ (g s).pool, okT t) ∧ s.out.length ≤ (g s).out.length ∧ (g s).out.length ≤ s.out.length + K ∧ (s.pool.length ≤ s.out.length → (g s).pool.length ≤ (g s).out.length)
theorem adds_n (n : Int) : Adds (wN n) 10 := fun s h => by
  have := enc_len n
  refine ⟨h, ?_, ?_, fun h0 => ?_⟩ <;> simp [wN] <;> omega
theorem adds_b (b : Bool) : Adds (wB b) 10 := adds_n _
theorem adds_t (t : ByteArray) (ht : okT t) : Adds (wT t) 10 := fun s h => by
  have := enc_len (idx s.pool t)
  refine ⟨fun u hu => ?_, ?_, ?_, fun h0 => ?_⟩
  · unfold wT at hu
    dsimp only at hu
    split at hu
    · exact h u hu
    · rcases List.mem_append.1 hu with hu | hu
      · exact h u hu
      · obtain rfl : u = t := by simpa using hu
        exact ht
  · simp [wT]
  · simp [wT]
    omega
  · unfold wT
    dsimp only
    split <;> simp <;> omega
theorem Adds.then {g g' : WS → WS} {K K' : Nat} (h : Adds g K) (h' : Adds g' K') : Adds (fun s => g' (g s)) (K + K') := fun s hs => by
  obtain ⟨a1, a2, a3, a4⟩ := h s hs
  obtain ⟨b1, b2, b3, b4⟩ := h' (g s) a1
  exact ⟨b1, Nat.le_trans a2 b2, by show (g' (g s)).out.length ≤ _; omega, fun h0 => b4 (a4 h0)⟩
theorem Adds.mono {g : WS → WS} {K K' : Nat} (h : Adds g K) (hk : K ≤ K') : Adds g K' := fun s hs => by
  obtain ⟨a1, a2, a3, a4⟩ := h s hs
  exact ⟨a1, a2, by omega, a4⟩
theorem adds_fold {α : Type} (f : α → WS → WS) (K : Nat) : ∀ (l : List α), (∀ x ∈ l, Adds (f x) K) → Adds (fun s => l.foldl (fun s x => f x s) s) (l.length * K)
  | [], _ => fun s hs => ⟨hs, Nat.le_refl _, Nat.le_add_right _ _, fun h => h⟩
  | x :: l, h => by
    have := (h x (List.mem_cons_self)).then (adds_fold f K l (fun y hy => h y (List.mem_cons_of_mem _ hy)))
    refine this.mono ?_
    rw [List.length_cons, Nat.succ_mul]
    omega
theorem adds_l {α : Type} (f : α → WS → WS) (K n : Nat) (l : List α) (hn : l.length ≤ n) (h : ∀ x ∈ l, Adds (f x) K) : Adds (wL f l) (10 + n * K) :=
  ((adds_n l.length).then (adds_fold f K l h)).mono (Nat.add_le_add_left (Nat.mul_le_mul_right _ hn) _)
theorem adds_f (f : FieldL) (h : okF f) : Adds (wF f) 30 := ((adds_t _ h.1).then (adds_t _ h.2)).then (adds_b _)
theorem adds_i (x : InsL) (h : okI x) : Adds (wI x) 40 := (((adds_n _).then (adds_n _)).then (adds_t _ h.2.2.1)).then (adds_t _ h.2.2.2)
theorem adds_x (x : MapL) (h : okX x) : Adds (wX x) 20030 := (((adds_n _).then (adds_l wT 10 1000 _ h.2.1 (fun t ht => adds_t t (h.2.2.2.1 t ht)))).then (adds_l wT 10 1000 _ h.2.2.1 (fun t ht => adds_t t (h.2.2.2.2 t ht)))).mono (by decide)
theorem adds_r (x : TrapL) (h : okR x) : Adds (wR x) 40 := (((adds_n _).then (adds_n _)).then (adds_n _)).then (adds_t _ h.2.2.2)
theorem adds_m (m : MethL) (h : okM m) : Adds (wM m) 30000000 := by
  obtain ⟨h1, h2, h3, h4, h5, h6, h7, h8⟩ := h
  exact ((((((((((adds_t _ h1).then (adds_l wT 10 1000 _ h5.1 (fun t ht => adds_t t (h5.2 t ht)))).then (adds_t _ h2)).then (adds_b _)).then (adds_b _)).then (adds_n _)).then (adds_n _)).then
    (adds_l wI 40 1000 _ h6.1 (fun x hx => adds_i x (h6.2 x hx)))).then (adds_l wX 20030 1000 _ h7.1 (fun x hx => adds_x x (h7.2 x hx)))).then (adds_l wR 40 1000 _ h8.1 (fun x hx => adds_r x (h8.2 x hx)))).mono (by decide)
theorem adds_c (c : ClsL) (h : okC c) : Adds (wC c) 40000000000 := by
  obtain ⟨h1, h2, h3, h4, h5⟩ := h
  exact ((((((adds_t _ h1).then (adds_t _ h2)).then (adds_b _)).then (adds_l wT 10 1000 _ h3.1 (fun t ht => adds_t t (h3.2 t ht)))).then
    (adds_l wF 30 1000 _ h4.1 (fun x hx => adds_f x (h4.2 x hx)))).then (adds_l wM 30000000 1000 _ h5.1 (fun x hx => adds_m x (h5.2 x hx)))).mono (by decide)
theorem rP_enc (t : ByteArray) (r : List Int) (h : okT t) : rP (encT t ++ r) = (t, r) := by
  unfold rP
  rw [getText_enc t r h]
  simp [str_nums]
theorem rK_pool : ∀ (p : List ByteArray) (r : List Int), (∀ t ∈ p, okT t) → rK rP p.length (poolB p ++ r) = (p, r)
  | [], r, _ => rfl
  | x :: p, r, h => by
    show ((rP (poolB (x :: p) ++ r)).1 :: _, _) = _
    have e : poolB (x :: p) ++ r = encT x ++ (poolB p ++ r) := by simp [poolB]
    rw [e, rP_enc x _ (h x (List.mem_cons_self))]
    dsimp only
    rw [rK_pool p r (fun t ht => h t (List.mem_cons_of_mem _ ht))]
theorem poolB_len : ∀ p : List ByteArray, p.length ≤ (poolB p).length ∧ ((∀ t ∈ p, okT t) → (poolB p).length ≤ p.length * 110)
  | [] => ⟨Nat.le_refl _, fun _ => Nat.zero_le _⟩
  | x :: p => by
    have := poolB_len p
    have h1 := enc_len x.size
    have e : (poolB (x :: p)).length = (encT x).length + (poolB p).length := by simp [poolB]
    rw [e, encT_length, List.length_cons, Nat.succ_mul]
    refine ⟨by omega, fun h => ?_⟩
    have h2 := h x (List.mem_cons_self)
    have h3 := this.2 (fun t ht => h t (List.mem_cons_of_mem _ ht))
    unfold okT at h2
    omega
theorem whole_ok (c : ClsL) (h : okC c) : (∀ t ∈ (wC c ⟨[], []⟩).pool, okT t) ∧ (wC c ⟨[], []⟩).out.length ≤ 40000000000 ∧ (wC c ⟨[], []⟩).pool.length ≤ 40000000000 := by
  obtain ⟨a1, a2, a3, a4⟩ := adds_c c h ⟨[], []⟩ (fun t ht => (by cases ht))
  have := a4 (Nat.le_refl _)
  simp at a3
  exact ⟨a1, a3, by omega⟩
theorem read_bytes (c : ClsL) (h : okC c) : readL (bytesL c) = c := by
  obtain ⟨a1, a2, a3⟩ := whole_ok c h
  obtain ⟨bs, e1, _, _, q⟩ := good_c c h ⟨[], []⟩
  have e0 : bytesL c = magic ++ (enc (wC c ⟨[], []⟩).pool.length ++ (poolB (wC c ⟨[], []⟩).pool ++ bs)) := by
    unfold bytesL whole
    rw [e1]
    simp
  unfold readL
  have hp : magic.isPrefixOf (bytesL c) = true := by rw [e0]; simp [magic]
  simp only [hp, if_true]
  have hd : (bytesL c).drop 4 = enc (wC c ⟨[], []⟩).pool.length ++ (poolB (wC c ⟨[], []⟩).pool ++ bs) := by rw [e0]; rfl
  rw [hd]
  have hl := poolB_len (wC c ⟨[], []⟩).pool
  have hr : rL rP (enc (wC c ⟨[], []⟩).pool.length ++ (poolB (wC c ⟨[], []⟩).pool ++ bs)) = ((wC c ⟨[], []⟩).pool, bs) := by
    unfold rL rQ
    rw [rN_enc _ _ (by unfold Is64; omega)]
    dsimp only
    rw [if_neg (by simp; omega)]
    simpa using rK_pool _ bs a1
  rw [hr]
  dsimp only
  have := q _ [] (List.prefix_refl _) (by omega)
  rw [List.append_nil] at this
  rw [this]
theorem bytes_inj (a b : ClsL) (ha : okC a) (hb : okC b) (h : bytesL a = bytesL b) : a = b := by
  rw [← read_bytes a ha, ← read_bytes b hb, h]
end Fil
end Go.Proofs.YtjblmgdjaaeedaaGreat
