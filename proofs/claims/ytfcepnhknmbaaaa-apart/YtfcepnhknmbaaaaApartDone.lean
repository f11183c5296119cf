/- The law Apart: done, of any kind. -/
import Derived.Test.YtfcepnhknmbaaaaApartWalkM
import Derived.Test.YtfcepnhknmbaaaaApartWalkD
import Derived.Test.YtfcepnhknmbaaaaApartFree
namespace Go.Proofs.Ytfcepnhknmbaaaa
open Go.RowKit Go.Deep

theorem done_any (w : World) (mb : Nat) (own : Nat → Prop) (A : Abs) (h : Rep w mb own A) (k gg a b g : Int) (W : Bool) (ha : In64 a) (hb : In64 b) (hg : In64 g) (hk : A.kn + 3 < maxLen) :
    Calls Try.prog 19 #[pt mb, stV k gg a b W, .int .i64 g] w (DonePost w mb own A (asks k a b W) g) := by
  by_cases h1 : k = 1
  · subst h1; exact done1_any w mb own A h gg a b g W ha hg (by omega)
  by_cases h2 : k = 2
  · subst h2; exact done2_any w mb own A h gg a b g W ha hg (by omega)
  by_cases h3 : k = 3
  · subst h3; exact done3_any w mb own A h gg a b g W ha hb hg (by omega)
  by_cases h4 : k = 4
  · subst h4; exact done4_any w mb own A h gg a b g W ha hb hg hk
  by_cases h5 : k = 5
  · subst h5; exact done5_any w mb own A h gg a b g W ha hg
  by_cases h6 : k = 6
  · subst h6; exact done6_any w mb own A h gg a b g W ha hg hk
  by_cases h7 : k = 7
  · subst h7; exact done7_any w mb own A h gg a b g W ha hg (by omega)
  exact done8_any w mb own A h gg a b g W k (by omega) ha hb hg hk

/-- A machine in order, with what it owns. -/
structure Guests (w : World) (mb : Nat) (own : Nat → Prop) (A : Abs) (n : Nat) : Prop where
  rep : Rep w mb own A
  tri : Tri A
  kn : A.kn ≤ n

/-- The two machines of the law. -/
structure Both (w0 w : World) (ma mo : Nat) (n : Nat) (g : Int) : Prop where
  of : ∃ ownA ownO A O, Guests w ma ownA A n ∧ Guests w mo ownO O n ∧ (∀ b, ownA b → ¬ ownO b) ∧ (∀ b, ownA b → w0.heap.size ≤ b) ∧ (∀ b, ownO b → w0.heap.size ≤ b) ∧ Sim A O g
  b : Only Nob w0 w

/-- A step of the first machine alone, of another guest. -/
theorem Both.other {w0 w : World} {ma mo n : Nat} {g : Int} (h : Both w0 w ma mo n g) (k gg a b g' : Int) (W : Bool) (ha : In64 a) (hb : In64 b) (hg : In64 g') (hk : n + 3 < maxLen) (hne : g ≠ g') :
    Calls Try.prog 19 #[pt ma, stV k gg a b W, .int .i64 g'] w fun e w' => ∃ x y z, e = .returned (.tuple #[.int .i64 x, .int .i64 y, .int .i64 z]) ∧ Both w0 w' ma mo (n + 3) g := by
  obtain ⟨⟨ownA, ownO, A, O, hA, hO, hd, hoA, hoO, hs⟩, hb0⟩ := h
  have := hA.kn
  refine (done_any w ma ownA A hA.rep k gg a b g' W ha hb hg (by omega)).mono ?_
  rintro e w' ⟨own', A', x, y, z, rfl, q1, q2, q3⟩
  obtain ⟨t1, t2, t3⟩ := q3.tri hA.tri (asks_ok k a b W)
  have hsz : w0.heap.size ≤ w.heap.size := hb0.size
  refine ⟨x, y, z, rfl, ⟨⟨own', ownO, A', O, ⟨q1, t1, by omega⟩, ⟨hO.rep.only q2.only (fun b hb q => hd b q hb), hO.tri, by have := hO.kn; omega⟩, fun b hb q => ?_, fun b hb => ?_, hoO, hs.quiet t2 hne⟩, ?_⟩⟩
  · rcases q2.ext b hb with r | r
    · exact hd b r q
    · have := hO.rep.own_lt q
      omega
  · rcases q2.ext b hb with r | r
    · exact hoA b r
    · omega
  · exact hb0.after q2.only (fun b hb q => absurd (hoA b q) (by omega))

/-- The same step in both. -/
theorem Both.first {w0 w : World} {ma mo n : Nat} {g : Int} (h : Both w0 w ma mo n g) (k gg a b : Int) (W : Bool) (ha : In64 a) (hb : In64 b) (hg : In64 g) (hg1 : 1 ≤ g) (hg3 : g ≤ 3) (hk : n + 3 < maxLen) :
    Calls Try.prog 19 #[pt ma, stV k gg a b W, .int .i64 g] w fun e w1 => ∃ x y z, e = .returned (.tuple #[.int .i64 x, .int .i64 y, .int .i64 z]) ∧ Only Nob w0 w1 ∧
      ∀ w2, Only Nob w1 w2 → Calls Try.prog 19 #[pt mo, stV k gg a b W, .int .i64 g] w2 fun e w' => e = .returned (.tuple #[.int .i64 x, .int .i64 y, .int .i64 z]) ∧ Both w0 w' ma mo (n + 3) g := by
  obtain ⟨⟨ownA, ownO, A, O, hA, hO, hd, hoA, hoO, hs⟩, hb0⟩ := h
  have hkA := hA.kn
  have hkO := hO.kn
  have hsz : w0.heap.size ≤ w.heap.size := hb0.size
  refine (done_any w ma ownA A hA.rep k gg a b g W ha hb hg (by omega)).mono ?_
  rintro e w1 ⟨own', A', x, y, z, rfl, q1, q2, q3⟩
  obtain ⟨t1, t2, t3⟩ := q3.tri hA.tri (asks_ok k a b W)
  have hb1 : Only Nob w0 w1 := hb0.after q2.only (fun b hb q => absurd (hoA b q) (by omega))
  refine ⟨x, y, z, rfl, hb1, fun w2 o2 => ?_⟩
  have hO1 : Rep w2 mo ownO O := (hO.rep.only q2.only (fun b hb q => hd b q hb)).nob o2
  refine (done_any w2 mo ownO O hO1 k gg a b g W ha hb hg (by omega)).mono ?_
  rintro e w' ⟨ownO', O', x', y', z', rfl, r1, r2, r3⟩
  obtain ⟨s1, s2, s3⟩ := r3.tri hO.tri (asks_ok k a b W)
  have fA := hA.tri.free hA.rep
  have fO := hO.tri.free hO.rep
  obtain ⟨rfl, rfl, rfl, hs'⟩ := q3.sim r3 hs hA.tri hO.tri (by omega) (by omega) (hA.rep.rt_lt hA.tri hg1 hg3) (asks_ok k a b W)
  have hA2 : Rep w2 ma own' A' := q1.nob o2
  have d1 : ∀ b, own' b → ¬ ownO b := fun b hb q => by
    rcases q2.ext b hb with r | r
    · exact hd b r q
    · have := hO.rep.own_lt q
      omega
  have d2 : ∀ b, own' b → ¬ ownO' b := fun b hb q => by
    rcases r2.ext b q with r | r
    · exact d1 b hb r
    · have := hA2.own_lt hb
      omega
  have hsz1 : w.heap.size ≤ w1.heap.size := q2.only.size
  have hsz2 : w1.heap.size ≤ w2.heap.size := o2.size
  refine ⟨rfl, ⟨⟨own', ownO', A', O', ⟨hA2.only r2.only (fun b hb q => d1 b hb q), t1, by omega⟩, ⟨r1, s1, by omega⟩, d2, fun b hb => ?_, fun b hb => ?_, hs'⟩, ?_⟩⟩
  · rcases q2.ext b hb with r | r
    · exact hoA b r
    · omega
  · rcases r2.ext b hb with r | r
    · exact hoO b r
    · omega
  · exact (hb1.trans o2).after r2.only (fun b hb q => absurd (hoO b q) (by omega))

/-- A word read in both. -/
theorem Both.read {w0 w : World} {ma mo n : Nat} {g : Int} (h : Both w0 w ma mo n g) (a : Int) (ha : a < 512) (hg : In64 g) (hk : n + 3 < maxLen) :
    Calls Try.prog 18 #[pt ma, .int .i64 g, .int .i64 a] w fun e w1 => ∃ x z, e = .returned (.tuple #[.int .i64 x, .int .i64 z]) ∧
      ∀ w2, Only Nob w1 w2 → Calls Try.prog 18 #[pt mo, .int .i64 g, .int .i64 a] w2 fun e w' => e = .returned (.tuple #[.int .i64 x, .int .i64 z]) ∧ Both w0 w' ma mo (n + 3) g := by
  obtain ⟨⟨ownA, ownO, A, O, hA, hO, hd, hoA, hoO, hs⟩, hb0⟩ := h
  have hkA := hA.kn
  have hkO := hO.kn
  have hsz : w0.heap.size ≤ w.heap.size := hb0.size
  refine (absRead hA.rep g a hg (by omega)).mono ?_
  rintro e w1 ⟨own', A', rfl, q1, q2, q3⟩
  obtain ⟨t1, _, t3⟩ := hA.tri.ticks (g := g) q3
  have hb1 : Only Nob w0 w1 := hb0.after q2.only (fun b hb q => absurd (hoA b q) (by omega))
  refine ⟨_, _, rfl, fun w2 o2 => ?_⟩
  have hO1 : Rep w2 mo ownO O := (hO.rep.only q2.only (fun b hb q => hd b q hb)).nob o2
  refine (absRead hO1 g a hg (by omega)).mono ?_
  rintro e w' ⟨ownO', O', rfl, r1, r2, r3⟩
  obtain ⟨s1, _, s3⟩ := hO.tri.ticks (g := g) r3
  have hA2 : Rep w2 ma own' A' := q1.nob o2
  have d1 : ∀ b, own' b → ¬ ownO b := fun b hb q => by
    rcases q2.ext b hb with r | r
    · exact hd b r q
    · have := hO.rep.own_lt q
      omega
  have d2 : ∀ b, own' b → ¬ ownO' b := fun b hb q => by
    rcases r2.ext b q with r | r
    · exact d1 b hb r
    · have := hA2.own_lt hb
      omega
  have hsz1 : w.heap.size ≤ w1.heap.size := q2.only.size
  have hsz2 : w1.heap.size ≤ w2.heap.size := o2.size
  refine ⟨by rw [hs.readAt hA.tri hO.tri ha], ⟨⟨own', ownO', A', O', ⟨hA2.only r2.only (fun b hb q => d1 b hb q), t1, by omega⟩, ⟨r1, s1, by omega⟩, d2, fun b hb => ?_, fun b hb => ?_, hs.ticks q3 r3⟩, ?_⟩⟩
  · rcases q2.ext b hb with r | r
    · exact hoA b r
    · omega
  · rcases r2.ext b hb with r | r
    · exact hoO b r
    · omega
  · exact (hb1.trans o2).after r2.only (fun b hb q => absurd (hoO b q) (by omega))

/-- The beginning. -/
theorem Both.start {w w1 w2 : World} {ma mo : Nat} {A O : Abs} (h1 : Run w w1 ma A) (i1 : Init A 64 3) (h2 : Run w1 w2 mo O) (i2 : Init O 64 3) (g : Int) : Both w w2 ma mo 10 g := by
  obtain ⟨ownA, a1, a2, a3⟩ := h1
  obtain ⟨ownO, b1, b2, b3⟩ := h2
  have hsz : w.heap.size ≤ w1.heap.size := a2.size
  refine ⟨⟨ownA, ownO, A, O, ⟨a1.nob b2, i1.tri, i1.kn⟩, ⟨b1, i2.tri, i2.kn⟩, fun b hb q => ?_, a3, fun b hb => ?_, i1.sim i2 g⟩, a2.trans b2⟩
  · have := b3 b q
    have := a1.own_lt hb
    omega
  · have := b3 b hb
    omega
theorem Both.nob {w0 w w' : World} {ma mo n : Nat} {g : Int} (h : Both w0 w ma mo n g) (o : Only Nob w w') : Both w0 w' ma mo n g := by
  obtain ⟨⟨ownA, ownO, A, O, hA, hO, hd, hoA, hoO, hs⟩, hb0⟩ := h
  exact ⟨⟨ownA, ownO, A, O, ⟨hA.rep.nob o, hA.tri, hA.kn⟩, ⟨hO.rep.nob o, hO.tri, hO.kn⟩, hd, hoA, hoO, hs⟩, hb0.trans o⟩
theorem Both.mono {w0 w : World} {ma mo n n' : Nat} {g : Int} (h : Both w0 w ma mo n g) (hn : n ≤ n') : Both w0 w ma mo n' g := by
  obtain ⟨⟨ownA, ownO, A, O, hA, hO, hd, hoA, hoO, hs⟩, hb0⟩ := h
  exact ⟨⟨ownA, ownO, A, O, ⟨hA.rep, hA.tri, Nat.le_trans hA.kn hn⟩, ⟨hO.rep, hO.tri, Nat.le_trans hO.kn hn⟩, hd, hoA, hoO, hs⟩, hb0⟩
end Go.Proofs.Ytfcepnhknmbaaaa
