/- The calls Root, Share, Load, Store of a machine beside blocks that are not its own. -/
import Derived.Test.YtfcepnhknmbaaaaAbsD
import Derived.Test.YtfcepnhknmbaaaaKeepB
namespace Go.Proofs.Ytfcepnhknmbaaaa
open Go.RowKit Go.Deep

section
variable {X : Nat → Prop} {w : World} {mb : Nat} {A : Abs}

theorem xRoot (h : RunX X w mb A) (g p : Int) (hg : In64 g) :
    Calls Try.prog 21 #[pt mb, .int .i64 g, .int .i64 p] w fun e w' => ∃ A', e = .returned (.int .i64 (A.rootCode g p)) ∧ RunX X w' mb A' ∧ Keeps X w w' ∧ (A.rootCode g p = 0 → A' = A.rooted g p) ∧ (A.rootCode g p ≠ 0 → A' = A) := by
  obtain ⟨hX, own, h1, h3⟩ := h
  refine (absRoot h1 g p hg).mono ?_
  rintro e w' ⟨own', A', rfl, q1, q2, q3, q4⟩
  obtain ⟨s1, s2⟩ := RunX.step hX h3 q1 q2
  exact ⟨A', rfl, s1, s2, q3, q4⟩

theorem xLoad (h : RunX X w mb A) (g a : Int) (hg : In64 g) (hk : A.kn + 3 < maxLen) :
    Calls Try.prog 23 #[pt mb, .int .i64 g, .int .i64 a] w fun e w' => e = .returned (.tuple #[.int .i64 (A.loadAt g a).1, .agg #[.int .i64 (A.loadAt g a).2.1, .int .i64 (A.loadAt g a).2.2.1], .int .i64 (A.loadAt g a).2.2.2]) ∧ RunX X w' mb (A.up 3) ∧ Keeps X w w' := by
  obtain ⟨hX, own, h1, h3⟩ := h
  refine (absLoad h1 g a hg hk).mono ?_
  rintro e w' ⟨own', rfl, q1, q2⟩
  obtain ⟨s1, s2⟩ := RunX.step hX h3 q1 q2
  exact ⟨rfl, s1, s2⟩

theorem xStore (h : RunX X w mb A) (g a v : Int) (hg : In64 g) (hk : A.kn + 3 < maxLen) :
    Calls Try.prog 22 #[pt mb, .int .i64 g, .int .i64 a, .int .i64 v] w fun e w' => ∃ A', e = .returned (.tuple #[.agg #[.int .i64 (A.storeAt g a v).1, .int .i64 (A.storeAt g a v).2.1], .int .i64 (A.storeAt g a v).2.2]) ∧ RunX X w' mb A' ∧ Keeps X w w' ∧
      (A.stores g a v = true → A' = A.stored (A.turned g (a.toNat / 8) true).1 (a.toNat % 8) v ∧ ∃ q b, q < 64 ∧ A.pg g q = some ((A.turned g (a.toNat / 8) true).1, b)) ∧ (A.stores g a v = false → A' = A.up 3) := by
  obtain ⟨hX, own, h1, h3⟩ := h
  refine (absStore h1 g a v hg hk).mono ?_
  rintro e w' ⟨own', A', rfl, q1, q2, q3, q4⟩
  obtain ⟨s1, s2⟩ := RunX.step hX h3 q1 q2
  exact ⟨A', rfl, s1, s2, q3, q4⟩

theorem xShare (h : RunX X w mb A) (f p t q : Int) (b : Bool) (hf : In64 f) (ht : In64 t) (hk : A.kn + 2 < maxLen) :
    Calls Try.prog 20 #[pt mb, .int .i64 f, .int .i64 p, .int .i64 t, .int .i64 q, .bool b] w fun e w' => ∃ A', e = .returned (.int .i64 (A.shareCode f p t q b)) ∧ RunX X w' mb A' ∧ Keeps X w w' ∧
      (A.shareCode f p t q b = 0 → ∃ fr wb, A.pg f p.toNat = some (fr, wb) ∧ A' = A.shared t q.toNat fr b) ∧ (A.shareCode f p t q b ≠ 0 → A' = A.up 2) := by
  obtain ⟨hX, own, h1, h3⟩ := h
  refine (absShare h1 f p t q b hf ht hk).mono ?_
  rintro e w' ⟨own', A', rfl, q1, q2, q3, q4⟩
  obtain ⟨s1, s2⟩ := RunX.step hX h3 q1 q2
  exact ⟨A', rfl, s1, s2, q3, q4⟩
end
end Go.Proofs.Ytfcepnhknmbaaaa
