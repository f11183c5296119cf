/- A machine beside blocks that are not its own ('RunX'): the calls' contracts, which leave those blocks alone. -/
import Derived.Test.YtfcepnhknmbaaaaKeepA
namespace Go.Proofs.Ytfcepnhknmbaaaa
open Go.RowKit Go.Deep

/-- Blocks of X have not turned. -/
structure Keeps (X : Nat → Prop) (w w' : World) : Prop where
  os : w'.os = w.os
  tape : w'.tape = w.tape
  output : w'.output = w.output
  size : w.heap.size ≤ w'.heap.size
  block : ∀ k, X k → w'.heap[k]? = w.heap[k]?

namespace Keeps
variable {X : Nat → Prop} {w w' w'' : World}
theorem refl (X : Nat → Prop) (w : World) : Keeps X w w := ⟨rfl, rfl, rfl, Nat.le_refl _, fun _ _ => rfl⟩
theorem trans (h : Keeps X w w') (k : Keeps X w' w'') : Keeps X w w'' :=
  ⟨k.os.trans h.os, k.tape.trans h.tape, k.output.trans h.output, Nat.le_trans h.size k.size, fun i hi => (k.block i hi).trans (h.block i hi)⟩
theorem cell (h : Keeps X w w') {p : Addr} (hp : X p.block) : w'.cell? p = w.cell? p := World.cell?_of_block (w := w) (h.block p.block hp)
theorem frozen (h : Keeps X w w') {p : Addr} (hp : X p.block) : w'.frozen? p = w.frozen? p := World.frozen?_of_block (w := w) (h.block p.block hp)
theorem row (h : Keeps X w w') {b : Nat} {t : TypeId} {n : Nat} {f : Nat → Value} (r : w.rowIs b t n f) (hb : X b) : w'.rowIs b t n f := r.of_block (h.block b hb)
theorem mono {Y : Nat → Prop} (h : Keeps X w w') (hy : ∀ b, Y b → X b) : Keeps Y w w' := ⟨h.os, h.tape, h.output, h.size, fun k hk => h.block k (hy k hk)⟩
theorem below {B : Nat} (h : Keeps X w w') (hB : ∀ b, b < B → X b) : Below B w w' := ⟨h.os, h.tape, h.output, h.size, fun k hk => h.block k (hB k hk)⟩
end Keeps

def RunX (X : Nat → Prop) (w : World) (mb : Nat) (A : Abs) : Prop := (∀ b, X b → b < w.heap.size) ∧ ∃ own, Rep w mb own A ∧ ∀ b, own b → ¬ X b

theorem RunX.of_run {w0 w : World} {mb : Nat} {A : Abs} (h : Run w0 w mb A) : RunX (fun b => b < w0.heap.size) w mb A ∧ Keeps (fun b => b < w0.heap.size) w0 w := by
  obtain ⟨own, h1, h2, h3⟩ := h
  exact ⟨⟨fun b hb => Nat.lt_of_lt_of_le hb h2.size, own, h1, fun b hb q => by have := h3 b hb; omega⟩, ⟨h2.os, h2.tape, h2.output, h2.size, fun k hk => h2.block k hk (fun q => q)⟩⟩

theorem RunX.step {X : Nat → Prop} {w w' : World} {mb : Nat} {A' : Abs} {own own' : Nat → Prop} (hX : ∀ b, X b → b < w.heap.size) (hb : ∀ b, own b → ¬ X b) (h : Rep w' mb own' A') (hl : Left w w' own own') : RunX X w' mb A' ∧ Keeps X w w' := by
  refine ⟨⟨fun b hb => Nat.lt_of_lt_of_le (hX b hb) hl.only.size, own', h, fun b q q2 => ?_⟩, ⟨hl.only.os, hl.only.tape, hl.only.output, hl.only.size, fun k hk => hl.only.block k (hX k hk) (fun q => hb k q hk)⟩⟩
  rcases hl.ext b q with q | q
  · exact hb b q q2
  · have := hX b q2
    omega

/-- A block is laid by the law itself. -/
theorem RunX.alloc {X : Nat → Prop} {w : World} {mb : Nat} {A : Abs} (h : RunX X w mb A) (o : Obj) : RunX (fun b => X b ∨ b = w.heap.size) (w.alloc o) mb A := by
  obtain ⟨h1, own, h2, h3⟩ := h
  refine ⟨fun b hb => ?_, own, h2.nob ((Only.refl _ _).alloc o), fun b q q2 => ?_⟩
  · rw [World.size_alloc]
    rcases hb with q | q
    · have := h1 b q
      omega
    · omega
  · rcases q2 with q2 | q2
    · exact h3 b q q2
    · have := h2.own_lt q
      omega

/-- .. and written. -/
theorem RunX.setCell {X : Nat → Prop} {w : World} {mb : Nat} {A : Abs} (h : RunX X w mb A) {a : Addr} (ha : X a.block) (v : Value) : RunX X (w.setCell a v) mb A := by
  obtain ⟨h1, own, h2, h3⟩ := h
  exact ⟨fun b hb => by rw [World.size_setCell]; exact h1 b hb, own, h2.only ((Only.refl (One a.block) w).setCell (fun _ => rfl) v) (fun b hb q => h3 b hb (by rw [q]; exact ha)), h3⟩

section
variable {X : Nat → Prop} {w : World} {mb : Nat} {A : Abs}

theorem xMap (h : RunX X w mb A) (g p : Int) (b : Bool) (hg : In64 g) (hk : A.kn < maxLen) :
    Calls Try.prog 14 #[pt mb, .int .i64 g, .int .i64 p, .bool b] w fun e w' => ∃ A', e = .returned (.int .i64 (A.mapCode g p)) ∧ RunX X w' mb A' ∧ Keeps X w w' ∧ (A.mapCode g p = 0 → ∃ f, A.New f ∧ A' = A.mapped g p.toNat f b) ∧ (A.mapCode g p ≠ 0 → A' = A ∨ A' = A.tick) := by
  obtain ⟨hX, own, h1, h3⟩ := h
  refine (absMap h1 g p b hg hk).mono ?_
  rintro e w' ⟨own', A', rfl, q1, q2, q3, q4⟩
  obtain ⟨s1, s2⟩ := RunX.step hX h3 q1 q2
  exact ⟨A', rfl, s1, s2, q3, q4⟩

theorem xUnmap (h : RunX X w mb A) (g p : Int) (hg : In64 g) (hk : A.kn < maxLen) :
    Calls Try.prog 13 #[pt mb, .int .i64 g, .int .i64 p] w fun e w' => ∃ A', e = .returned (.int .i64 (A.unmapCode g p)) ∧ RunX X w' mb A' ∧ Keeps X w w' ∧ (A.unmapCode g p = 0 → ∃ fr, A' = A.unmapped g p.toNat fr ∧ (A.lone g p.toNat → fr = A.free + 1 + (if A.more g p.toNat then 0 else 1))) ∧ (A.unmapCode g p ≠ 0 → A' = A ∨ A' = A.tick) := by
  obtain ⟨hX, own, h1, h3⟩ := h
  refine (absUnmap h1 g p hg hk).mono ?_
  rintro e w' ⟨own', A', rfl, q1, q2, q3, q4⟩
  obtain ⟨s1, s2⟩ := RunX.step hX h3 q1 q2
  exact ⟨A', rfl, s1, s2, q3, q4⟩

theorem xRead (h : RunX X w mb A) (g a : Int) (hg : In64 g) (hk : A.kn < maxLen) :
    Calls Try.prog 18 #[pt mb, .int .i64 g, .int .i64 a] w fun e w' => ∃ A', e = .returned (.tuple #[.int .i64 (A.readAt g a).1, .int .i64 (A.readAt g a).2]) ∧ RunX X w' mb A' ∧ Keeps X w w' ∧ (A' = A ∨ A' = A.tick) := by
  obtain ⟨hX, own, h1, h3⟩ := h
  refine (absRead h1 g a hg hk).mono ?_
  rintro e w' ⟨own', A', rfl, q1, q2, q3⟩
  obtain ⟨s1, s2⟩ := RunX.step hX h3 q1 q2
  exact ⟨A', rfl, s1, s2, q3⟩

theorem xWrite (h : RunX X w mb A) (g a v : Int) (hg : In64 g) (hk : A.kn < maxLen) :
    Calls Try.prog 17 #[pt mb, .int .i64 g, .int .i64 a, .int .i64 v] w fun e w' => ∃ A', e = .returned (.int .i64 (A.writeCode g a v)) ∧ RunX X w' mb A' ∧ Keeps X w w' ∧ (A.writeCode g a v = 0 → ∃ f b, A.pg g (a.toNat / 8) = some (f, b) ∧ A' = A.wrote f (a.toNat % 8) v) ∧ (A.writeCode g a v ≠ 0 → A' = A ∨ A' = A.tick) := by
  obtain ⟨hX, own, h1, h3⟩ := h
  refine (absWrite h1 g a v hg hk).mono ?_
  rintro e w' ⟨own', A', rfl, q1, q2, q3, q4⟩
  obtain ⟨s1, s2⟩ := RunX.step hX h3 q1 q2
  exact ⟨A', rfl, s1, s2, q3, q4⟩

theorem xDestroy (h : RunX X w mb A) (g : Int) (hg : In64 g) :
    Calls Try.prog 16 #[pt mb, .int .i64 g] w fun e w' => ∃ A', e = .returned (.int .i64 (if A.has g then 0 else 4)) ∧ RunX X w' mb A' ∧ Keeps X w w' ∧
      (A.has g = true → ∃ fr, A' = A.destroyed g fr ∧ ((∀ g', g' ≠ g → A.has g' = false) → fr = A.n) ∧ (∀ g1, g1 ≠ g → A.has g1 = true → (∀ g', g' ≠ g → g' ≠ g1 → A.has g' = false) → (∀ p, p < 64 → A.pg g1 p = none) → fr + 1 = A.n)) ∧ (A.has g = false → A' = A) := by
  obtain ⟨hX, own, h1, h3⟩ := h
  refine (absDestroy h1 g hg).mono ?_
  rintro e w' ⟨own', A', rfl, q1, q2, q3, q4⟩
  obtain ⟨s1, s2⟩ := RunX.step hX h3 q1 q2
  exact ⟨A', rfl, s1, s2, q3, q4⟩

theorem xFree (h : RunX X w mb A) : Calls Try.prog 15 #[pt mb] w fun e w' => e = .returned (.int .i64 A.free) ∧ w = w' := by
  obtain ⟨hX, own, h1, h3⟩ := h
  exact absFree h1
end

/-! Counted: what the law holds of its machine. -/
/-- Pages of guest 1 among the first n of a group. -/
def cntTo (A : Abs) (k : Nat) : Nat → Nat
  | 0 => 0
  | n + 1 => cntTo A k n + if (A.pg 1 (8 * k + n)).isSome then 1 else 0
def cntG (A : Abs) (k : Nat) : Nat := cntTo A k 8

structure Cnt (A : Abs) (fr : Nat) : Prop where
  an : A.n = fr
  has : ∀ g : Int, A.has g = decide (g = 1)
  lone : ∀ p p' f b b', p < 64 → p' < 64 → A.pg 1 p = some (f, b) → A.pg 1 p' = some (f, b') → p = p'
  non : ∀ g p, g ≠ 1 → A.pg g p = none
  free : A.free ≤ 64

theorem cntTo_le (A : Abs) (k n : Nat) : cntTo A k n ≤ n := by
  induction n with
  | zero => exact Nat.le_refl _
  | succ n ih => simp only [cntTo]; split <;> omega

theorem cntTo_zero (A : Abs) (k n : Nat) : cntTo A k n = 0 ↔ ∀ i, i < n → (A.pg 1 (8 * k + i)).isSome = false := by
  induction n with
  | zero => simp [cntTo]
  | succ n ih =>
    simp only [cntTo]
    constructor
    · intro h i hi
      by_cases e : i = n
      · subst e
        cases q : (A.pg 1 (8 * k + i)).isSome with
        | false => rfl
        | true => rw [q] at h; simp at h
      · exact (ih.1 (by omega)) i (by omega)
    · intro h
      rw [ih.2 (fun i hi => h i (by omega)), h n (by omega)]
      rfl

theorem cntG_grp (A : Abs) (k : Nat) : A.grp 1 k = decide (cntG A k ≠ 0) := by
  rw [Bool.eq_iff_iff, decide_eq_true_eq]
  simp only [Abs.grp, List.any_eq_true, List.mem_range, cntG, Ne, cntTo_zero]
  constructor
  · rintro ⟨i, hi, q⟩ h
    rw [h i hi] at q
    cases q
  · intro h
    apply Classical.byContradiction
    intro q
    apply h
    intro i hi
    cases e : (A.pg 1 (8 * k + i)).isSome with
    | false => rfl
    | true => exact absurd ⟨i, hi, e⟩ q

/-- How the count turns with one page. -/
theorem cntTo_set {A A' : Abs} {p : Nat} (ho : ∀ q, q ≠ p → (A'.pg 1 q).isSome = (A.pg 1 q).isSome) (k : Nat) : ∀ n, n ≤ 8 → cntTo A' k n + (if p / 8 = k ∧ p % 8 < n ∧ (A.pg 1 p).isSome then 1 else 0) = cntTo A k n + (if p / 8 = k ∧ p % 8 < n ∧ (A'.pg 1 p).isSome then 1 else 0)
  | 0, _ => by simp [cntTo]
  | n + 1, hn8 => by
    have ih := cntTo_set ho k n (by omega)
    simp only [cntTo]
    by_cases e : p = 8 * k + n
    · have e1 : p / 8 = k := by omega
      have e2 : p % 8 = n := by omega
      rw [← e]
      rw [if_neg (by omega), if_neg (by omega)] at ih
      have c1 : (p / 8 = k ∧ p % 8 < n + 1 ∧ (A.pg 1 p).isSome = true) ↔ (A.pg 1 p).isSome = true := ⟨fun q => q.2.2, fun q => ⟨e1, by omega, q⟩⟩
      have c2 : (p / 8 = k ∧ p % 8 < n + 1 ∧ (A'.pg 1 p).isSome = true) ↔ (A'.pg 1 p).isSome = true := ⟨fun q => q.2.2, fun q => ⟨e1, by omega, q⟩⟩
      simp only [c1, c2]
      omega
    · have c1 : (p / 8 = k ∧ p % 8 < n + 1 ∧ (A.pg 1 p).isSome = true) ↔ (p / 8 = k ∧ p % 8 < n ∧ (A.pg 1 p).isSome = true) := ⟨fun q => ⟨q.1, by omega, q.2.2⟩, fun q => ⟨q.1, by omega, q.2.2⟩⟩
      have c2 : (p / 8 = k ∧ p % 8 < n + 1 ∧ (A'.pg 1 p).isSome = true) ↔ (p / 8 = k ∧ p % 8 < n ∧ (A'.pg 1 p).isSome = true) := ⟨fun q => ⟨q.1, by omega, q.2.2⟩, fun q => ⟨q.1, by omega, q.2.2⟩⟩
      simp only [c1, c2, ho (8 * k + n) (fun q => e q.symm)]
      omega

theorem cntG_set {A A' : Abs} {p : Nat} (ho : ∀ q, q ≠ p → (A'.pg 1 q).isSome = (A.pg 1 q).isSome) (k : Nat) : cntG A' k + (if p / 8 = k ∧ (A.pg 1 p).isSome then 1 else 0) = cntG A k + (if p / 8 = k ∧ (A'.pg 1 p).isSome then 1 else 0) := by
  have h := cntTo_set ho k 8 (Nat.le_refl _)
  have c1 : (p / 8 = k ∧ p % 8 < 8 ∧ (A.pg 1 p).isSome = true) ↔ (p / 8 = k ∧ (A.pg 1 p).isSome = true) := ⟨fun q => ⟨q.1, q.2.2⟩, fun q => ⟨q.1, by omega, q.2⟩⟩
  have c2 : (p / 8 = k ∧ p % 8 < 8 ∧ (A'.pg 1 p).isSome = true) ↔ (p / 8 = k ∧ (A'.pg 1 p).isSome = true) := ⟨fun q => ⟨q.1, q.2.2⟩, fun q => ⟨q.1, by omega, q.2⟩⟩
  simp only [c1, c2] at h
  exact h

/-- Behind a page that came. -/
theorem cnt_mapped {A : Abs} {fr p f : Nat} {b : Bool} (h : Cnt A fr) (ha : (A.pg 1 p).isSome = false) (hN : A.New f) :
    Cnt (A.mapped 1 p f b) fr ∧ ((A.mapped 1 p f b).pg 1 p).isSome = true ∧ (∀ q, q ≠ p → ((A.mapped 1 p f b).pg 1 q).isSome = (A.pg 1 q).isSome) ∧ (∀ k, cntG (A.mapped 1 p f b) k = cntG A k + if p / 8 = k then 1 else 0) := by
  have hpg : ∀ g q, (A.mapped 1 p f b).pg g q = if g = 1 ∧ q = p then some (f, b) else A.pg g q := fun _ _ => rfl
  have h1 : ((A.mapped 1 p f b).pg 1 p).isSome = true := by rw [hpg, if_pos ⟨rfl, rfl⟩]; rfl
  have h2 : ∀ q, q ≠ p → ((A.mapped 1 p f b).pg 1 q).isSome = (A.pg 1 q).isSome := fun q hq => by rw [hpg, if_neg (fun e => hq e.2)]
  refine ⟨⟨h.an, h.has, ?_, ?_, ?_⟩, h1, h2, fun k => ?_⟩
  · intro q q' f' b1 b2 hq hq' e1 e2
    rw [hpg] at e1 e2
    by_cases a1 : q = p
    · by_cases a2 : q' = p
      · rw [a1, a2]
      · rw [if_pos ⟨rfl, a1⟩] at e1
        rw [if_neg (fun e => a2 e.2)] at e2
        injection e1 with e1
        injection e1 with e1 _
        rw [← e1] at e2
        exact absurd e2 (hN.2 1 q' b2 hq')
    · rw [if_neg (fun e => a1 e.2)] at e1
      by_cases a2 : q' = p
      · rw [if_pos ⟨rfl, a2⟩] at e2
        injection e2 with e2
        injection e2 with e2 _
        rw [← e2] at e1
        exact absurd e1 (hN.2 1 q b1 hq)
      · rw [if_neg (fun e => a2 e.2)] at e2
        exact h.lone q q' f' b1 b2 hq hq' e1 e2
  · intro g q hg
    rw [hpg, if_neg (fun e => hg e.1)]
    exact h.non g q hg
  · have := h.free
    show A.free - A.need 1 p ≤ 64
    omega
  · have := cntG_set h2 k
    rw [ha, h1] at this
    simpa using this

theorem cnt_unmapped {A : Abs} {fr p fr' : Nat} (h : Cnt A fr) (ha : (A.pg 1 p).isSome = true) (hf : fr' ≤ 64) :
    Cnt (A.unmapped 1 p fr') fr ∧ ((A.unmapped 1 p fr').pg 1 p).isSome = false ∧ (∀ q, q ≠ p → ((A.unmapped 1 p fr').pg 1 q).isSome = (A.pg 1 q).isSome) ∧ (∀ k, cntG (A.unmapped 1 p fr') k + (if p / 8 = k then 1 else 0) = cntG A k) := by
  have hpg : ∀ g q, (A.unmapped 1 p fr').pg g q = if g = 1 ∧ q = p then none else A.pg g q := fun _ _ => rfl
  have h1 : ((A.unmapped 1 p fr').pg 1 p).isSome = false := by rw [hpg, if_pos ⟨rfl, rfl⟩]; rfl
  have h2 : ∀ q, q ≠ p → ((A.unmapped 1 p fr').pg 1 q).isSome = (A.pg 1 q).isSome := fun q hq => by rw [hpg, if_neg (fun e => hq e.2)]
  refine ⟨⟨h.an, h.has, ?_, ?_, hf⟩, h1, h2, fun k => ?_⟩
  · intro q q' f' b1 b2 hq hq' e1 e2
    rw [hpg] at e1 e2
    split at e1
    · cases e1
    · split at e2
      · cases e2
      · exact h.lone q q' f' b1 b2 hq hq' e1 e2
  · intro g q hg
    rw [hpg, if_neg (fun e => hg e.1)]
    exact h.non g q hg
  · have := cntG_set h2 k
    rw [ha, h1] at this
    simpa using this

theorem cnt_lone {A : Abs} {fr p : Nat} (h : Cnt A fr) (hp : p < 64) : A.lone 1 p := by
  intro f b g' p' b' e1 hp' e2
  by_cases hg : g' = 1
  · subst hg
    exact ⟨rfl, (h.lone p p' f b b' hp hp' e1 e2).symm⟩
  · rw [h.non g' p' hg] at e2
    cases e2

/-- There is another page in the group just if the count is more than one. -/
theorem cnt_more {A : Abs} {p : Nat} (ha : (A.pg 1 p).isSome = true) : A.more 1 p = decide (cntG A (p / 8) ≠ 1) := by
  have hpg : ∀ g q, (A.unmapped 1 p 0).pg g q = if g = 1 ∧ q = p then none else A.pg g q := fun _ _ => rfl
  have h2 : ∀ q, q ≠ p → ((A.unmapped 1 p 0).pg 1 q).isSome = (A.pg 1 q).isSome := fun q hq => by rw [hpg, if_neg (fun e => hq e.2)]
  have h3 := cntG_set h2 (p / 8)
  have h1 : ((A.unmapped 1 p 0).pg 1 p).isSome = false := by rw [hpg, if_pos ⟨rfl, rfl⟩]; rfl
  rw [ha, h1] at h3
  simp at h3
  have h4 : A.more 1 p = (A.unmapped 1 p 0).grp 1 (p / 8) := by
    simp only [Abs.more, Abs.grp]
    congr 1
    funext i
    rw [hpg]
    by_cases e : 8 * (p / 8) + i = p
    · rw [if_pos ⟨rfl, e⟩]
      simp [e]
    · rw [if_neg (fun q => e q.2)]
      simp [e]
  rw [h4, cntG_grp]
  congr 1
  apply propext
  omega

theorem cnt_init {A : Abs} {fr : Nat} (h : Init A fr 1) (hf : fr ≤ 64) : Cnt A fr ∧ A.free + 1 = fr ∧ (∀ k, cntG A k = 0) := by
  refine ⟨⟨h.an, fun g => ?_, fun p p' f b b' _ _ e1 => ?_, fun g p _ => h.pg g p, ?_⟩, h.free, fun k => ?_⟩
  · rw [h.has]
    congr 1
    apply propext
    omega
  · rw [h.pg] at e1
    cases e1
  · have := h.free
    omega
  · exact (cntTo_zero A k 8).2 (fun i _ => by rw [h.pg]; rfl)
end Go.Proofs.Ytfcepnhknmbaaaa
