/- Steps of a law on guest 1 of its machine ('One1'), each with the state that it leaves written out; what a turned address comes to, level by level. -/
import Derived.Test.YtfcepnhknmbaaaaKeepC
namespace Go.Proofs.Ytfcepnhknmbaaaa
open Go.RowKit Go.Deep

structure One1 (X : Nat → Prop) (w0 w : World) (mb : Nat) (A : Abs) (fr kn : Nat) : Prop where
  r : RunX X w mb A
  k : Keeps X w0 w
  has : A.has 1 = true
  non : ∀ g p, g ≠ 1 → A.pg g p = none
  free : fr ≤ A.free
  kn : A.kn ≤ kn

theorem One1.init {w0 w : World} {mb : Nat} {A : Abs} {n : Nat} (h : Run w0 w mb A) (hI : Init A n 1) : One1 (fun b => b < w0.heap.size) w0 w mb A (n - 1) 10 := by
  obtain ⟨hX, hK⟩ := RunX.of_run h
  exact ⟨hX, hK, by rw [hI.has]; rfl, fun g p _ => hI.pg g p, by have := hI.free; omega, hI.kn⟩

theorem isPg_ok {p : Int} (h0 : 0 ≤ p) (h1 : p < 64) : isPg p = true := by simp [isPg, h0, h1]
theorem isAd_ok {p : Int} (h0 : 0 ≤ p) (h1 : p < 512) : isAd p = true := by simp [isAd, h0, h1]
theorem in1 : In64 1 := in64_lit (by omega) (by omega)

section
variable {X : Nat → Prop} {w0 w : World} {mb : Nat} {A : Abs} {fr kn : Nat}

/-- The law lays a block of its own. -/
theorem One1.alloc (h : One1 X w0 w mb A fr kn) (o : Obj) : One1 (fun b => X b ∨ b = w.heap.size) (w.alloc o) (w.alloc o) mb A fr kn :=
  ⟨h.r.alloc o, Keeps.refl _ _, h.has, h.non, h.free, h.kn⟩

theorem One1.map (h : One1 X w0 w mb A fr kn) {p : Int} (b : Bool) (h0 : 0 ≤ p) (h1 : p < 64) (hx : A.pg 1 p.toNat = none) (hf : 2 ≤ fr) (hk : kn ≤ 90) :
    Calls Try.prog 14 #[pt mb, .int .i64 1, .int .i64 p, .bool b] w fun e w' => ∃ f, e = .returned (.int .i64 0) ∧ One1 X w0 w' mb (A.mapped 1 p.toNat f b) (fr - 2) (kn + 1) ∧ (∀ p' b', p' < 64 → A.pg 1 p' ≠ some (f, b')) := by
  have hfr := h.free
  have hn : A.need 1 p.toNat ≤ 2 := by rw [Abs.need]; split <;> omega
  have hc : A.mapCode 1 p = 0 := by
    have hc : A.check 1 (isPg p) = 0 := by simp [Abs.check, h.has, isPg_ok h0 h1]
    rw [Abs.mapCode, if_neg (by rw [hc]; simp), hx]
    simp
    omega
  refine (xMap h.r 1 p b in1 (by have := h.kn; unfold maxLen; omega)).mono ?_
  rintro e w' ⟨A', rfl, hr, hk', hA, _⟩
  rw [hc]
  obtain ⟨f, hnew, rfl⟩ := hA hc
  refine ⟨f, rfl, ⟨hr, h.k.trans hk', h.has, fun g p' hg => ?_, ?_, ?_⟩, fun p' b' hp' => hnew.2 1 p' b' hp'⟩
  · show (if g = 1 ∧ p' = p.toNat then some (f, b) else A.pg g p') = none
    rw [if_neg (fun e => hg e.1)]
    exact h.non g p' hg
  · show fr - 2 ≤ A.free - A.need 1 p.toNat
    omega
  · have := h.kn
    show A.kn + 1 ≤ kn + 1
    omega

theorem One1.write (h : One1 X w0 w mb A fr kn) {a v : Int} {f : Nat} (h0 : 0 ≤ a) (h1 : a < 512) (hv0 : 0 ≤ v) (hv1 : v ≤ 65535) (hx : A.pg 1 (a.toNat / 8) = some (f, true)) (hk : kn ≤ 90) :
    Calls Try.prog 17 #[pt mb, .int .i64 1, .int .i64 a, .int .i64 v] w fun e w' => e = .returned (.int .i64 0) ∧ One1 X w0 w' mb (A.wrote f (a.toNat % 8) v) fr (kn + 1) := by
  have hc : A.writeCode 1 a v = 0 := by
    have hc : A.check 1 (isAd a) = 0 := by simp [Abs.check, h.has, isAd_ok h0 h1]
    rw [Abs.writeCode, if_neg (by rw [hc]; simp), if_neg (by omega), hx]
    rfl
  refine (xWrite h.r 1 a v in1 (by have := h.kn; unfold maxLen; omega)).mono ?_
  rintro e w' ⟨A', rfl, hr, hk', hA, _⟩
  rw [hc]
  obtain ⟨f', b', e1, rfl⟩ := hA hc
  rw [hx] at e1
  injection e1 with e1
  injection e1 with e1 _
  subst e1
  exact ⟨rfl, hr, h.k.trans hk', h.has, h.non, h.free, by have := h.kn; show A.kn + 1 ≤ kn + 1; omega⟩

theorem One1.root (h : One1 X w0 w mb A fr kn) {p : Int} (h0 : -1 ≤ p) (h1 : p < 64) :
    Calls Try.prog 21 #[pt mb, .int .i64 1, .int .i64 p] w fun e w' => e = .returned (.int .i64 0) ∧ One1 X w0 w' mb (A.rooted 1 p) fr kn := by
  have hc : A.rootCode 1 p = 0 := by simp [Abs.rootCode, Abs.check, h.has, isRt, h0, h1]
  refine (xRoot h.r 1 p in1).mono ?_
  rintro e w' ⟨A', rfl, hr, hk', hA, _⟩
  rw [hc]
  have e1 := hA hc
  subst e1
  exact ⟨rfl, hr, h.k.trans hk', h.has, h.non, h.free, h.kn⟩

theorem One1.unmap (h : One1 X w0 w mb A fr kn) {p : Int} {x : Nat × Bool} (h0 : 0 ≤ p) (h1 : p < 64) (hx : A.pg 1 p.toNat = some x) (hl : ∀ p' b', p' < 64 → A.pg 1 p' = some (x.1, b') → p' = p.toNat) (hk : kn ≤ 90) :
    Calls Try.prog 13 #[pt mb, .int .i64 1, .int .i64 p] w fun e w' => ∃ n, e = .returned (.int .i64 0) ∧ One1 X w0 w' mb (A.unmapped 1 p.toNat n) (fr + 1) (kn + 1) := by
  have hc : A.unmapCode 1 p = 0 := by
    have hc : A.check 1 (isPg p) = 0 := by simp [Abs.check, h.has, isPg_ok h0 h1]
    rw [Abs.unmapCode, if_neg (by rw [hc]; simp), hx]
    rfl
  refine (xUnmap h.r 1 p in1 (by have := h.kn; unfold maxLen; omega)).mono ?_
  rintro e w' ⟨A', rfl, hr, hk', hA, _⟩
  rw [hc]
  obtain ⟨n, rfl, hn⟩ := hA hc
  have hlone : A.lone 1 p.toNat := by
    intro f b g' p' b' e1 hp' e2
    by_cases hg : g' = 1
    · subst hg
      rw [hx] at e1
      injection e1 with e1
      refine ⟨rfl, hl p' b' hp' ?_⟩
      rw [e1]
      exact e2
    · rw [h.non g' p' hg] at e2
      cases e2
  have hn := hn hlone
  refine ⟨n, rfl, hr, h.k.trans hk', h.has, fun g p' hg => ?_, ?_, by have := h.kn; show A.kn + 1 ≤ kn + 1; omega⟩
  · show (if g = 1 ∧ p' = p.toNat then none else A.pg g p') = none
    rw [if_neg (fun e => hg e.1)]
    exact h.non g p' hg
  · have := h.free
    show fr + 1 ≤ n
    omega

theorem One1.load (h : One1 X w0 w mb A fr kn) {a : Int} {T : Nat × Int × Int} (h0 : 0 ≤ a) (h1 : a < 512) (hT : A.turned 1 (a.toNat / 8) false = T) (hk : kn ≤ 90) :
    Calls Try.prog 23 #[pt mb, .int .i64 1, .int .i64 a] w fun e w' => e = .returned (.tuple #[.int .i64 (if T.2.1 = 0 then A.wd T.1 (a.toNat % 8) else 0), .agg #[.int .i64 T.2.1, .int .i64 T.2.2], .int .i64 0]) ∧ One1 X w0 w' mb (A.up 3) fr (kn + 3) := by
  have hl : A.loadAt 1 a = (if T.2.1 = 0 then A.wd T.1 (a.toNat % 8) else 0, T.2.1, T.2.2, 0) := by
    have hc : A.check 1 (isAd a) = 0 := by simp [Abs.check, h.has, isAd_ok h0 h1]
    rw [Abs.loadAt, if_neg (by rw [hc]; simp), hT]
  refine (xLoad h.r 1 a in1 (by have := h.kn; unfold maxLen; omega)).mono ?_
  rintro e w' ⟨rfl, hr, hk'⟩
  rw [hl]
  exact ⟨rfl, hr, h.k.trans hk', h.has, h.non, h.free, by have := h.kn; show A.kn + 3 ≤ kn + 3; omega⟩

theorem One1.store (h : One1 X w0 w mb A fr kn) {a v : Int} {T : Nat × Int × Int} (h0 : 0 ≤ a) (h1 : a < 512) (hv0 : 0 ≤ v) (hv1 : v ≤ 65535) (hT : A.turned 1 (a.toNat / 8) true = T) (hk : kn ≤ 90) :
    Calls Try.prog 22 #[pt mb, .int .i64 1, .int .i64 a, .int .i64 v] w fun e w' => ∃ A', e = .returned (.tuple #[.agg #[.int .i64 T.2.1, .int .i64 T.2.2], .int .i64 0]) ∧ One1 X w0 w' mb A' fr (kn + 3) ∧ (T.2.1 = 0 → A' = A.stored T.1 (a.toNat % 8) v) ∧ (T.2.1 ≠ 0 → A' = A.up 3) := by
  have hc : A.checkV 1 a v = 0 := by
    have hc : A.check 1 (isAd a) = 0 := by simp [Abs.check, h.has, isAd_ok h0 h1]
    rw [Abs.checkV, if_neg (by rw [hc]; simp), if_neg (by omega)]
  have hs : A.storeAt 1 a v = (T.2.1, T.2.2, 0) := by rw [Abs.storeAt, if_neg (by rw [hc]; simp), hT]
  refine (xStore h.r 1 a v in1 (by have := h.kn; unfold maxLen; omega)).mono ?_
  rintro e w' ⟨A', rfl, hr, hk', hA1, hA2⟩
  rw [hs]
  rw [hT] at hA1
  by_cases hz : T.2.1 = 0
  · have hst : A.stores 1 a v = true := by simp [Abs.stores, hc, hT, hz]
    obtain ⟨rfl, _⟩ := hA1 hst
    exact ⟨_, rfl, ⟨hr, h.k.trans hk', h.has, h.non, h.free, by have := h.kn; show A.kn + 3 ≤ kn + 3; omega⟩, fun _ => rfl, fun q => absurd hz q⟩
  · have hst : A.stores 1 a v = false := by simp [Abs.stores, hT, hz]
    have e1 := hA2 hst
    subst e1
    exact ⟨_, rfl, ⟨hr, h.k.trans hk', h.has, h.non, h.free, by have := h.kn; show A.kn + 3 ≤ kn + 3; omega⟩, fun q => absurd q hz, fun _ => rfl⟩

theorem One1.read (h : One1 X w0 w mb A fr kn) {a : Int} {f : Nat} {b : Bool} (h0 : 0 ≤ a) (h1 : a < 512) (hx : A.pg 1 (a.toNat / 8) = some (f, b)) (hk : kn ≤ 90) :
    Calls Try.prog 18 #[pt mb, .int .i64 1, .int .i64 a] w fun e w' => e = .returned (.tuple #[.int .i64 (A.wd f (a.toNat % 8)), .int .i64 0]) ∧ Keeps X w0 w' := by
  have hl : A.readAt 1 a = (A.wd f (a.toNat % 8), 0) := by
    have hc : A.check 1 (isAd a) = 0 := by simp [Abs.check, h.has, isAd_ok h0 h1]
    rw [Abs.readAt, if_neg (by rw [hc]; simp), hx]
  refine (xRead h.r 1 a in1 (by have := h.kn; unfold maxLen; omega)).mono ?_
  rintro e w' ⟨A', rfl, hr, hk', _⟩
  rw [hl]
  exact ⟨rfl, h.k.trans hk'⟩

theorem One1.loadOk (h : One1 X w0 w mb A fr kn) {a x : Int} {f : Nat} (h0 : 0 ≤ a) (h1 : a < 512) (hT : A.turned 1 (a.toNat / 8) false = (f, 0, 0)) (hx : A.wd f (a.toNat % 8) = x) (hk : kn ≤ 90) :
    Calls Try.prog 23 #[pt mb, .int .i64 1, .int .i64 a] w fun e w' => e = .returned (.tuple #[.int .i64 x, .agg #[.int .i64 0, .int .i64 0], .int .i64 0]) ∧ One1 X w0 w' mb (A.up 3) fr (kn + 3) := by
  refine (h.load h0 h1 hT hk).mono ?_
  rintro e w' ⟨rfl, q⟩
  exact ⟨by simp [hx], q⟩
theorem One1.loadFault (h : One1 X w0 w mb A fr kn) {a k l : Int} (h0 : 0 ≤ a) (h1 : a < 512) (hT : A.turned 1 (a.toNat / 8) false = (0, k, l)) (hk0 : k ≠ 0) (hk : kn ≤ 90) :
    Calls Try.prog 23 #[pt mb, .int .i64 1, .int .i64 a] w fun e w' => e = .returned (.tuple #[.int .i64 0, .agg #[.int .i64 k, .int .i64 l], .int .i64 0]) ∧ One1 X w0 w' mb (A.up 3) fr (kn + 3) := by
  refine (h.load h0 h1 hT hk).mono ?_
  rintro e w' ⟨rfl, q⟩
  exact ⟨by simp [hk0], q⟩

theorem Keeps.setCell {w w' : World} (h : Keeps X w w') {a : Addr} (ha : ¬ X a.block) (v : Value) : Keeps X w (w'.setCell a v) := by
  have o := ((Only.refl (One a.block) w').setCell (fun _ => rfl) v)
  refine ⟨h.os, h.tape, h.output, ?_, fun k hk => ?_⟩
  · rw [World.size_setCell]; exact h.size
  · rw [← h.block k hk]
    by_cases hl : k < w'.heap.size
    · exact o.block k hl (fun e => ha (by rw [← e]; exact hk))
    · have h2 : ¬ k < (w'.setCell a v).heap.size := by rw [World.size_setCell]; exact hl
      rw [Array.getElem?_eq_none (by omega), Array.getElem?_eq_none (by omega)]
theorem Keeps.alloc {w w' : World} (h : Keeps X w w') (hX : ∀ b, X b → b < w.heap.size) (o : Obj) : Keeps X w (w'.alloc o) := by
  have q := (Only.refl Nob w').alloc o
  exact ⟨h.os, h.tape, h.output, Nat.le_trans h.size q.size, fun k hk => by rw [← h.block k hk]; exact q.block k (Nat.lt_of_lt_of_le (hX k hk) h.size) (fun e => e)⟩
theorem One1.laid (h : One1 X w0 w mb A fr kn) (o : Obj) : One1 X w0 (w.alloc o) mb A fr kn := by
  obtain ⟨h1, own, h2, h3⟩ := h.r
  have q := (Only.refl Nob w).alloc o
  refine ⟨⟨fun b hb => Nat.lt_of_lt_of_le (h1 b hb) q.size, own, h2.nob q, h3⟩, ?_, h.has, h.non, h.free, h.kn⟩
  exact h.k.trans ⟨q.os, q.tape, q.output, q.size, fun k hk => q.block k (h1 k hk) (fun e => e)⟩
theorem One1.mono (h : One1 X w0 w mb A fr kn) {fr' kn' : Nat} (h1 : fr' ≤ fr) (h2 : kn ≤ kn') : One1 X w0 w mb A fr' kn' := ⟨h.r, h.k, h.has, h.non, Nat.le_trans h1 h.free, Nat.le_trans h.kn h2⟩
/-- The law writes into a block of its own. -/
theorem One1.setCell (h : One1 X w0 w mb A fr kn) {a : Addr} (ha : X a.block) (v : Value) : One1 X (w.setCell a v) (w.setCell a v) mb A fr kn :=
  ⟨h.r.setCell ha v, Keeps.refl _ _, h.has, h.non, h.free, h.kn⟩

/-! The levels. -/
theorem lev_none {g : Int} {p q n : Nat} {st : Bool} (h : A.pg g q = none) : A.lev g p st (n + 1) q = (0, 3, (2 : Int) - n) := by rw [Abs.lev, h]
theorem lev_abs {g : Int} {p q n f : Nat} {st b : Bool} {x : Int} (h : A.pg g q = some (f, b)) (hw : A.wd f (idx (2 - n) p) = x) (hx : pres x = false) : A.lev g p st (n + 1) q = (0, 1, (2 : Int) - n) := by rw [Abs.lev, h]; simp [hw, hx]
theorem lev_den {g : Int} {p q n f : Nat} {b : Bool} {x : Int} (h : A.pg g q = some (f, b)) (hw : A.wd f (idx (2 - n) p) = x) (hx : pres x = true) (hy : wrib x = false) : A.lev g p true (n + 1) q = (0, 2, (2 : Int) - n) := by rw [Abs.lev, h]; simp [hw, hx, hy]
theorem lev_go {g : Int} {p q n f : Nat} {st b : Bool} {x : Int} (h : A.pg g q = some (f, b)) (hw : A.wd f (idx (2 - n) p) = x) (hx : pres x = true) (hy : st = true → wrib x = true) : A.lev g p st (n + 1) q = A.lev g p st n (numb x) := by
  rw [Abs.lev, h]
  simp only [hw, hx, if_true]
  cases st with
  | false => rfl
  | true => rw [hy rfl]; rfl
theorem lev0_none {g : Int} {p q : Nat} {st : Bool} (h : A.pg g q = none) : A.lev g p st 0 q = (0, 3, 3) := by rw [Abs.lev, h]
theorem lev0_den {g : Int} {p q f : Nat} (h : A.pg g q = some (f, false)) : A.lev g p true 0 q = (0, 4, 3) := by rw [Abs.lev, h]; rfl
theorem lev0_go {g : Int} {p q f : Nat} {st b : Bool} (h : A.pg g q = some (f, b)) (hb : st = true → b = true) : A.lev g p st 0 q = (f, 0, 0) := by
  rw [Abs.lev, h]
  cases st with
  | false => rfl
  | true => rw [hb rfl]; rfl
theorem turned_plain {g : Int} {p : Nat} {st : Bool} (h : A.rt g = -1) : A.turned g p st = A.lev g p st 0 p := by rw [Abs.turned, if_pos h]
theorem turned_by {g R : Int} {p : Nat} {st : Bool} (h : A.rt g = R) (hR : 0 ≤ R) : A.turned g p st = A.lev g p st 2 R.toNat := by rw [Abs.turned, h, if_neg (by omega)]
end
end Go.Proofs.Ytfcepnhknmbaaaa
