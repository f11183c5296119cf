/- The law Older: Restore, Save, Read of its one machine; rows of its own beside it. -/
import Derived.Test.YtfcepnhknmbaaaaOlderBase
import Derived.Test.YtfcepnhknmbaaaaSees
namespace Go.Proofs.Ytfcepnhknmbaaaa
open Go.RowKit Go.Deep

section
variable {w0 w w' : World} {mb hb gb n : Nat} {A A' : Abs} {H : Nat → Bool} {G : Nat → Int} {P : Pic}

theorem Rows2.call (h : Rows2 w0 w mb hb gb A H G) {F : Nat} {args : Array Value} {Q : Ending → Abs → Prop} (hc : ∀ own, Rep w mb own A → Calls Try.prog F args w fun e w' => ∃ own' A', Q e A' ∧ Rep w' mb own' A' ∧ Left w w' own own') :
    Calls Try.prog F args w fun e w' => ∃ A', Q e A' ∧ Rows2 w0 w' mb hb gb A' H G := by
  obtain ⟨⟨own, h1⟩, hne, ⟨t, h2⟩, t', h3⟩ := h
  refine (hc own h1.r).mono ?_
  rintro e w' ⟨own', A', q, r1, r2⟩
  exact ⟨A', q, ⟨own', h1.call r1 r2⟩, hne, ⟨t, r2.only.row h2 (fun q => h1.ap _ q (Or.inl rfl))⟩, t', r2.only.row h3 (fun q => h1.ap _ q (Or.inr rfl))⟩

theorem frTo_cnt (P : Pic) (k : Nat) : P.frTo k ≤ 1 + 2 * cntF P.pr k := by
  induction k with
  | zero => simp [Pic.frTo, cntF]
  | succ k ih =>
    rw [Pic.frTo, cntF_next]
    cases P.pr k with
    | false => simpa using ih
    | true =>
      simp only [if_true]
      split <;> omega

theorem Rows2.restore (h : Rows2 w0 w mb hb gb A H G) (hI : Init A 64 1) {l : List Nat} (hV : Valid l) (hl : Bys l) (h2 : l.length ≤ 2000) (hS : (picOf l).Same P) (hP : ∀ p, p < 64 → P.pr p = false → P.wr p = false ∧ ∀ k, k < 8 → P.wd p k = 0) (hf : cntF P.pr 64 ≤ 20) :
    Calls Try.prog 25 #[pt mb, .string (toS l)] w fun e w' => e = .returned (.tuple #[.int .i64 2, .int .i64 0]) ∧ ∃ A', Rows2 w0 w' mb hb gb A' H G ∧ (A'.pic 2).Same P ∧ A'.has 2 = true ∧ A'.kn ≤ 10 := by
  refine (h.call (Q := fun e A' => e = .returned (.tuple #[.int .i64 2, .int .i64 0]) ∧ (A'.pic 2).Same P ∧ A'.has 2 = true ∧ A'.kn ≤ 10) (fun own hr => ?_)).mono ?_
  · refine (absRestore hr _ (by rw [toS_size]; unfold maxLen; omega) (by rw [nats_toS hl]; exact hV) (by rw [hI.last]; omega)).mono ?_
    rintro e w' ⟨Q, own', A', h1, h3, rfl, q1, q2, q3⟩
    rw [nats_toS hl] at h1
    have hs := h1.trans hS
    have hfr : Q.frames ≤ 41 := by
      have h4 := frTo_cnt Q 64
      have h5 : cntF Q.pr 64 = cntF P.pr 64 := cntF_congr 64 (fun i hi => hs.pr i hi)
      show Q.frTo 64 ≤ 41
      omega
    have hcode : A.admitCode Q = 0 := by
      have := hI.free
      rw [Abs.admitCode, hI.cnt, if_neg (by omega), if_neg (by omega)]
    have el : (A.last : Int) + 1 = 2 := by rw [hI.last]; rfl
    have hs2 := Admits.sees (fun p hp hq => by
      have := hP p hp (by rw [← hs.pr p hp]; exact hq)
      exact ⟨by rw [hs.wr p hp]; exact this.1, fun k hk => by rw [hs.wd p k hp hk]; exact this.2 k hk⟩) (fun p _ => hI.pg _ p) q3 hcode
    rw [el] at hs2
    obtain ⟨c1, c2, c3, _, _⟩ := hs2
    rw [hcode, el]
    exact ⟨own', A', ⟨rfl, c1.trans hs, c2, by rw [c3]; exact hI.kn⟩, q1, q2⟩
  · rintro e w' ⟨A', ⟨rfl, q⟩, q2⟩
    exact ⟨rfl, A', q2, q⟩

theorem Rows2.save (h : Rows2 w0 w mb hb gb A H G) (hs : (A.pic 2).Same P) (hh : A.has 2 = true) (hk : A.kn ≤ 10) :
    Calls Try.prog 24 #[pt mb, .int .i64 2] w fun e w' => e = .returned (.tuple #[.string (toS (encL P)), .int .i64 0]) ∧ Rows2 w0 w' mb hb gb (A.up 64) H G := by
  refine (h.call (Q := fun e A' => e = .returned (.tuple #[.string (toS (encL P)), .int .i64 0]) ∧ A' = A.up 64) (fun own hr => ?_)).mono ?_
  · refine (absSave hr 2 (in64_lit (by omega) (by omega)) (by unfold maxLen; omega)).mono ?_
    rintro e w' ⟨own', rfl, q1, q2, _⟩
    rw [hh, encL_congr hs]
    exact ⟨own', _, ⟨rfl, rfl⟩, q1, q2⟩
  · rintro e w' ⟨A', ⟨rfl, rfl⟩, q⟩
    exact ⟨rfl, q⟩

theorem pic_read (hs : (A.pic 2).Same P) (hh : A.has 2 = true) {k : Nat} (hk : k < 512) : A.readAt 2 k = if P.pr (k / 8) then (P.wd (k / 8) (k % 8), 0) else (0, 7) := by
  have hc : A.check 2 (isAd k) = 0 := by
    have : isAd (k : Int) = true := by simp [isAd]; omega
    rw [Abs.check, hh, this]; rfl
  have e1 : (A.pg 2 (k / 8)).isSome = P.pr (k / 8) := hs.pr _ (by omega)
  have e2 : (match A.pg 2 (k / 8) with | .some (f, _) => A.wd f (k % 8) | .none => 0) = P.wd (k / 8) (k % 8) := hs.wd _ _ (by omega) (by omega)
  rw [Abs.readAt, hc, if_neg (by simp), Int.toNat_natCast]
  cases hp : A.pg 2 (k / 8) with
  | none =>
    rw [hp] at e1
    rw [← e1]; rfl
  | some y =>
    rw [hp] at e1 e2
    rw [← e1, ← e2]; rfl

theorem Rows2.read (h : Rows2 w0 w mb hb gb A H G) (hs : (A.pic 2).Same P) (hh : A.has 2 = true) (hk : A.kn ≤ n) (hn : n ≤ 2000) {k : Nat} (hk5 : k < 512) {x c : Int} (hx : (if P.pr (k / 8) then (P.wd (k / 8) (k % 8), 0) else ((0 : Int), (7 : Int))) = (x, c)) :
    Calls Try.prog 18 #[pt mb, .int .i64 2, .int .i64 k] w fun e w' => e = .returned (.tuple #[.int .i64 x, .int .i64 c]) ∧ ∃ A', Rows2 w0 w' mb hb gb A' H G ∧ (A'.pic 2).Same P ∧ A'.has 2 = true ∧ A'.kn ≤ n + 1 := by
  refine (h.call (Q := fun e A' => e = .returned (.tuple #[.int .i64 x, .int .i64 c]) ∧ (A'.pic 2).Same P ∧ A'.has 2 = true ∧ A'.kn ≤ n + 1) (fun own hr => ?_)).mono ?_
  · refine (absRead hr 2 k (in64_lit (by omega) (by omega)) (by unfold maxLen; omega)).mono ?_
    rintro e w' ⟨own', A', rfl, q1, q2, q3⟩
    rw [pic_read hs hh hk5, hx]
    refine ⟨own', A', ⟨rfl, ?_⟩, q1, q2⟩
    rcases q3 with rfl | rfl
    · exact ⟨hs, hh, by omega⟩
    · exact ⟨hs, hh, by show A.kn + 1 ≤ n + 1; omega⟩
  · rintro e w' ⟨A', ⟨rfl, q⟩, q2⟩
    exact ⟨rfl, A', q2, q⟩
end
end Go.Proofs.Ytfcepnhknmbaaaa
