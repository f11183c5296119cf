/- A machine that a law has made ('Run'); the contracts of pick and of machine of package cradlekeep. -/
import Derived.Test.YtfcepnhknmbaaaaAbsAdmit
namespace Go.Proofs.Ytfcepnhknmbaaaa
open Go.RowKit Go.Deep

/-- Since w0 a machine was made, in new blocks; nothing of w0 has turned. -/
def Run (w0 w : World) (mb : Nat) (A : Abs) : Prop := ∃ own, Rep w mb own A ∧ Only Nob w0 w ∧ ∀ b, own b → w0.heap.size ≤ b

theorem Run.step {w0 w w' : World} {mb : Nat} {A' : Abs} {own own' : Nat → Prop} (ho : Only Nob w0 w) (hb : ∀ b, own b → w0.heap.size ≤ b) (h : Rep w' mb own' A') (hl : Left w w' own own') : Run w0 w' mb A' := by
  refine ⟨own', h, ho.after hl.only (fun b hb' q => absurd (hb b q) (by omega)), fun b q => ?_⟩
  rcases hl.ext b q with q | q
  · exact hb b q
  · have := ho.size
    omega

theorem Run.only {w0 w : World} {mb : Nat} {A : Abs} (h : Run w0 w mb A) : Only Nob w0 w := by obtain ⟨_, _, q, _⟩ := h; exact q

/-- Blocks that the law itself has laid, and writes. -/
theorem Run.wrote {w0 w w' : World} {mb : Nat} {A : Abs} {T : Nat → Prop} (h : Run w0 w mb A) (o : Only T w w') (hT : ∀ b, T b → w0.heap.size ≤ b) (hn : ∀ own, Rep w mb own A → ∀ b, own b → ¬ T b) : Run w0 w' mb A := by
  obtain ⟨own, h1, h2, h3⟩ := h
  exact ⟨own, h1.only o (hn own h1), h2.after o (fun b hb q => absurd (hT b q) (by omega)), h3⟩

theorem runMap {w0 w : World} {mb : Nat} {A : Abs} (h : Run w0 w mb A) (g p : Int) (b : Bool) (hg : In64 g) (hk : A.kn < maxLen) :
    Calls Try.prog 14 #[pt mb, .int .i64 g, .int .i64 p, .bool b] w fun e w' => ∃ A', e = .returned (.int .i64 (A.mapCode g p)) ∧ Run w0 w' mb A' ∧ (A.mapCode g p = 0 → ∃ f, A.New f ∧ A' = A.mapped g p.toNat f b) ∧ (A.mapCode g p ≠ 0 → A' = A ∨ A' = A.tick) := by
  obtain ⟨own, h1, h2, h3⟩ := h
  refine (absMap h1 g p b hg hk).mono ?_
  rintro e w' ⟨own', A', rfl, q1, q2, q3, q4⟩
  exact ⟨A', rfl, Run.step h2 h3 q1 q2, q3, q4⟩

theorem runUnmap {w0 w : World} {mb : Nat} {A : Abs} (h : Run w0 w mb A) (g p : Int) (hg : In64 g) (hk : A.kn < maxLen) :
    Calls Try.prog 13 #[pt mb, .int .i64 g, .int .i64 p] w fun e w' => ∃ A', e = .returned (.int .i64 (A.unmapCode g p)) ∧ Run w0 w' mb A' ∧ (A.unmapCode g p = 0 → ∃ fr, A' = A.unmapped g p.toNat fr ∧ (A.lone g p.toNat → fr = A.free + 1 + (if A.more g p.toNat then 0 else 1))) ∧ (A.unmapCode g p ≠ 0 → A' = A ∨ A' = A.tick) := by
  obtain ⟨own, h1, h2, h3⟩ := h
  refine (absUnmap h1 g p hg hk).mono ?_
  rintro e w' ⟨own', A', rfl, q1, q2, q3, q4⟩
  exact ⟨A', rfl, Run.step h2 h3 q1 q2, q3, q4⟩

theorem runRead {w0 w : World} {mb : Nat} {A : Abs} (h : Run w0 w mb A) (g a : Int) (hg : In64 g) (hk : A.kn < maxLen) :
    Calls Try.prog 18 #[pt mb, .int .i64 g, .int .i64 a] w fun e w' => ∃ A', e = .returned (.tuple #[.int .i64 (A.readAt g a).1, .int .i64 (A.readAt g a).2]) ∧ Run w0 w' mb A' ∧ (A' = A ∨ A' = A.tick) := by
  obtain ⟨own, h1, h2, h3⟩ := h
  refine (absRead h1 g a hg hk).mono ?_
  rintro e w' ⟨own', A', rfl, q1, q2, q3⟩
  exact ⟨A', rfl, Run.step h2 h3 q1 q2, q3⟩

theorem runWrite {w0 w : World} {mb : Nat} {A : Abs} (h : Run w0 w mb A) (g a v : Int) (hg : In64 g) (hk : A.kn < maxLen) :
    Calls Try.prog 17 #[pt mb, .int .i64 g, .int .i64 a, .int .i64 v] w fun e w' => ∃ A', e = .returned (.int .i64 (A.writeCode g a v)) ∧ Run w0 w' mb A' ∧ (A.writeCode g a v = 0 → ∃ f b, A.pg g (a.toNat / 8) = some (f, b) ∧ A' = A.wrote f (a.toNat % 8) v) ∧ (A.writeCode g a v ≠ 0 → A' = A ∨ A' = A.tick) := by
  obtain ⟨own, h1, h2, h3⟩ := h
  refine (absWrite h1 g a v hg hk).mono ?_
  rintro e w' ⟨own', A', rfl, q1, q2, q3, q4⟩
  exact ⟨A', rfl, Run.step h2 h3 q1 q2, q3, q4⟩

theorem runCreate {w0 w : World} {mb : Nat} {A : Abs} (h : Run w0 w mb A) (hl : A.last < 1000000000000000000) :
    Calls Try.prog 30 #[pt mb] w fun e w' => ∃ A', e = .returned (.tuple #[.int .i64 (if A.createCode = 0 then A.last + 1 else 0), .int .i64 A.createCode]) ∧ Run w0 w' mb A' ∧ A' = if A.createCode = 0 then A.created else A := by
  obtain ⟨own, h1, h2, h3⟩ := h
  refine (absCreate h1 hl).mono ?_
  rintro e w' ⟨own', A', rfl, q1, q2, q3⟩
  exact ⟨A', rfl, Run.step h2 h3 q1 q2, q3⟩

theorem runDestroy {w0 w : World} {mb : Nat} {A : Abs} (h : Run w0 w mb A) (g : Int) (hg : In64 g) :
    Calls Try.prog 16 #[pt mb, .int .i64 g] w fun e w' => ∃ A', e = .returned (.int .i64 (if A.has g then 0 else 4)) ∧ Run w0 w' mb A' ∧
      (A.has g = true → ∃ fr, A' = A.destroyed g fr ∧ ((∀ g', g' ≠ g → A.has g' = false) → fr = A.n) ∧ (∀ g1, g1 ≠ g → A.has g1 = true → (∀ g', g' ≠ g → g' ≠ g1 → A.has g' = false) → (∀ p, p < 64 → A.pg g1 p = none) → fr + 1 = A.n)) ∧ (A.has g = false → A' = A) := by
  obtain ⟨own, h1, h2, h3⟩ := h
  refine (absDestroy h1 g hg).mono ?_
  rintro e w' ⟨own', A', rfl, q1, q2, q3, q4⟩
  exact ⟨A', rfl, Run.step h2 h3 q1 q2, q3, q4⟩

theorem runFree {w0 w : World} {mb : Nat} {A : Abs} (h : Run w0 w mb A) : Calls Try.prog 15 #[pt mb] w fun e w' => e = .returned (.int .i64 A.free) ∧ w = w' := by
  obtain ⟨own, h1, h2, h3⟩ := h
  exact absFree h1

/-! pick. -/
def pickI (c n : Int) : Int := if c < 0 then (-(c + 1)) % n else c % n
theorem pickI_bd (c n : Int) (hn : 0 < n) : 0 ≤ pickI c n ∧ pickI c n < n := by
  simp only [pickI]
  split
  · exact ⟨Int.emod_nonneg _ (by omega), Int.emod_lt_of_pos _ hn⟩
  · exact ⟨Int.emod_nonneg _ (by omega), Int.emod_lt_of_pos _ hn⟩

set_option maxHeartbeats 400000 in
theorem pick_any (w : World) (c n : Int) (h0 : -9223372036854775808 ≤ c) (h1 : c ≤ 9223372036854775807) (hn : 0 < n) (hn2 : n ≤ 65536) :
    Calls Try.prog 11 #[.int .i64 c, .int .i64 n] w fun e w' => e = .returned (.int .i64 (pickI c n)) ∧ w = w' := by
  by_cases h : c < 0
  · have HP : Hid (pickI c n = (-(c + 1)) % n) := by simp [Hid, pickI, h]
    have hm := Int.tmod_eq_emod_of_nonneg (a := -(c + 1)) (by omega) (b := n)
    go_enter Try.func11, Try.ntmps11
    go_wp2
    go_ret
    exact ⟨ret_int HP.out.symm, rfl⟩
  · have HP : Hid (pickI c n = c % n) := by simp [Hid, pickI, h]
    go_enter Try.func11, Try.ntmps11
    go_wp2
    go_ret
    exact ⟨ret_int HP.out.symm, rfl⟩

/-! machine. -/
structure Init (A : Abs) (fr n : Nat) : Prop where
  an : A.n = fr
  free : A.free + n = fr
  cnt : A.cnt = n
  last : A.last = n
  kn : A.kn ≤ 10
  has : ∀ g : Int, A.has g = decide (1 ≤ g ∧ g ≤ n)
  pg : ∀ g p, A.pg g p = none
  rt : ∀ g, A.rt g = -1

theorem init_fresh (fr : Nat) : Init (Abs.fresh fr) fr 0 :=
  ⟨rfl, rfl, rfl, rfl, by simp [Abs.fresh], fun g => by simp [Abs.fresh]; omega, fun _ _ => rfl, fun _ => rfl⟩

theorem init_created {A : Abs} {fr n : Nat} (h : Init A fr n) (hn : n < 4) (hf : n + 1 ≤ fr) : A.createCode = 0 ∧ Init A.created fr (n + 1) := by
  have h1 := h.free
  have h2 := h.cnt
  constructor
  · simp only [Abs.createCode]
    rw [if_neg (by omega), if_neg (by omega)]
  · refine ⟨h.an, ?_, ?_, ?_, h.kn, fun g => ?_, h.pg, fun g => ?_⟩
    · show A.free - 1 + (n + 1) = fr
      omega
    · show A.cnt + 1 = n + 1
      omega
    · show A.last + 1 = n + 1
      rw [h.last]
    · show (if g = (A.last : Int) + 1 then true else A.has g) = _
      rw [h.has, h.last]
      by_cases e : g = (n : Int) + 1
      · rw [if_pos e]
        symm
        rw [decide_eq_true_eq]
        omega
      · rw [if_neg e]
        congr 1
        apply propext
        omega
    · show (if g = (A.last : Int) + 1 then -1 else A.rt g) = -1
      split
      · rfl
      · exact h.rt g

theorem grp_none {A : Abs} {g : Int} {k : Nat} (h : ∀ p, A.pg g p = none) : A.grp g k = false := by
  simp [Abs.grp, h]

theorem init_map {A : Abs} {fr n : Nat} (h : Init A fr n) (hn : 1 ≤ n) (hf : n + 2 ≤ fr) : A.mapCode 1 40 = 0 ∧ A.need 1 40 = 2 := by
  have h1 := h.free
  have hh : A.has 1 = true := by rw [h.has]; simp; omega
  have hn2 : A.need 1 40 = 2 := by simp [Abs.need, grp_none (h.pg 1)]
  refine ⟨?_, hn2⟩
  have hc : A.check 1 (isPg 40) = 0 := by simp [Abs.check, hh, isPg]
  simp only [Abs.mapCode, hc]
  rw [show (40 : Int).toNat = 40 from rfl, h.pg, hn2]
  simp
  omega

theorem init_write {A : Abs} {fr n f : Nat} (h : Init A fr n) (hn : 1 ≤ n) : (A.mapped 1 40 f true).writeCode 1 323 77 = 0 := by
  have hh : A.has 1 = true := by rw [h.has]; simp; omega
  have hc : (A.mapped 1 40 f true).check 1 (isAd 323) = 0 := by simp [Abs.check, Abs.mapped, hh, isAd]
  simp only [Abs.writeCode, hc]
  simp [Abs.mapped]

theorem init_read {A : Abs} {fr n f : Nat} (h : Init A fr n) (hn : 1 ≤ n) : ((A.mapped 1 40 f true).wrote f 3 77).readAt 1 323 = (77, 0) := by
  have hh : A.has 1 = true := by rw [h.has]; simp; omega
  have hc : ((A.mapped 1 40 f true).wrote f 3 77).check 1 (isAd 323) = 0 := by simp [Abs.check, Abs.mapped, Abs.wrote, hh, isAd]
  simp only [Abs.readAt, hc]
  simp [Abs.mapped, Abs.wrote]

theorem init_unmap {A B : Abs} {fr n f fr' : Nat} (h : Init A fr n) (hn : 1 ≤ n) (hf : n + 2 ≤ fr) (hB : B = (A.mapped 1 40 f true).wrote f 3 77 ∨ B = ((A.mapped 1 40 f true).wrote f 3 77).tick) (hk : A.kn ≤ 0) :
    B.unmapCode 1 40 = 0 ∧ ((B.lone 1 40 → fr' = B.free + 1 + (if B.more 1 40 then 0 else 1)) → Init (B.unmapped 1 40 fr') fr n) := by
  have hh : A.has 1 = true := by rw [h.has]; simp; omega
  have hpg : ∀ g p, B.pg g p = if g = 1 ∧ p = 40 then some (f, true) else none := fun g p => by
    rcases hB with rfl | rfl <;> simp [Abs.wrote, Abs.mapped, Abs.tick, h.pg]
  have hB1 : B.has = A.has := by rcases hB with rfl | rfl <;> rfl
  have hB2 : B.n = A.n ∧ B.cnt = A.cnt ∧ B.last = A.last ∧ B.free = A.free - A.need 1 40 ∧ B.kn ≤ A.kn + 3 := by
    rcases hB with rfl | rfl
    · exact ⟨rfl, rfl, rfl, rfl, by simp [Abs.wrote, Abs.mapped]⟩
    · exact ⟨rfl, rfl, rfl, rfl, by simp [Abs.wrote, Abs.mapped, Abs.tick]⟩
  have hnd := (init_map h hn hf).2
  constructor
  · have hc : B.check 1 (isPg 40) = 0 := by simp [Abs.check, hB1, hh, isPg]
    simp only [Abs.unmapCode, hc]
    rw [show (40 : Int).toNat = 40 from rfl, hpg]
    simp
  · intro hfr
    have hm : B.more 1 40 = false := by simp [Abs.more, hpg]
    have hl : B.lone 1 40 := by
      intro f1 b1 g' p' b' _ _ q
      rw [hpg] at q
      split at q
      · rename_i e; exact e
      · cases q
    have := hfr hl
    rw [hm] at this
    have h1 := h.free
    refine ⟨by rw [← h.an, ← hB2.1]; rfl, ?_, by rw [← h.cnt, ← hB2.2.1]; rfl, by rw [← h.last, ← hB2.2.2.1]; rfl, ?_, fun g => ?_, fun g p => ?_, fun g => ?_⟩
    · show fr' + n = fr
      simp at this
      omega
    · show B.kn + 1 ≤ 10
      have := hB2.2.2.2.2
      omega
    · show B.has g = _
      rw [hB1]
      exact h.has g
    · show (if g = 1 ∧ p = 40 then none else B.pg g p) = none
      rw [hpg]
      split <;> rfl
    · show B.rt g = -1
      have hB3 : B.rt = A.rt := by rcases hB with rfl | rfl <;> rfl
      rw [hB3]
      exact h.rt g

theorem in64_lit {x : Int} (h0 : 0 ≤ x) (h1 : x ≤ 65536) : In64 x := ⟨by omega, by omega⟩

set_option maxHeartbeats 1000000 in
theorem machine_any (w : World) (fr n : Int) (h4 : 4 ≤ fr) (h64 : fr ≤ 64) (hn1 : 1 ≤ n) (hn3 : n ≤ 3) (hfn : n + 2 ≤ fr) :
    Calls Try.prog 12 #[.int .i64 fr, .int .i64 n] w fun e w' => ∃ mb A, e = .returned (pt mb) ∧ Run w w' mb A ∧ Init A fr.toNat n.toNat := by
  go_enter Try.func12, Try.ntmps12
  go_wp2_with fail
  refine (absNew _ fr h4 h64).mono ?_
  rintro e w1 ⟨mb, own, rfl, hR, hO, hb⟩
  have hRun : Run w w1 mb (Abs.fresh fr.toNat) := ⟨own, hR, hO, hb⟩
  clear hR hO hb
  go_wp2_with fail
  go_loopw [7] (fun c wr => ∃ (k : Nat) (A : Abs), (k : Int) ≤ n ∧ c = .int .i64 (k + 1) ∧ Run w wr mb A ∧ Init A fr.toNat k ∧ A.kn ≤ 0) (fun c _ => (n + 1 - intOf c).toNat)
  case atStart => exact ⟨0, _, by omega, rfl, hRun, init_fresh _, by simp [Abs.fresh]⟩
  case round =>
    obtain ⟨k, A, hk, rfl, hR, hI, hkn⟩ := hrel
    by_cases hlt : (k : Int) + 1 ≤ n
    · obtain ⟨hc, hI'⟩ := init_created hI (by omega) (by omega)
      have hl := hI.last
      have HL := hid hl
      have HC := hid hc
      clear hl hc hRun
      go_wp2_with fail
      refine (runCreate hR (by rw [HL.out]; omega)).mono ?_
      rintro e w2 ⟨A', rfl, hR', hA'⟩
      rw [HC.out] at hA' ⊢
      rw [if_pos rfl] at hA' ⊢
      rw [HL.out]
      subst hA'
      go_wp2
      go_roundw
      case rel => exact ⟨k + 1, _, by omega, by go_num, hR', hI', hkn⟩
      case measure => simp [intOf]; omega
    · have ek : k = n.toNat := by omega
      have hI : Init A fr.toNat n.toNat := by rw [← ek]; exact hI
      have hkk : A.kn < maxLen := by unfold maxLen; omega
      obtain ⟨hc1, _⟩ := init_map hI (by omega) (by omega)
      have HC1 := hid hc1
      have HKK := hid hkk
      clear hc1 hkk ek hRun
      go_wp2_with fail
      refine (runMap hR 1 40 true (in64_lit (by omega) (by omega)) HKK.out).mono ?_
      rintro e w2 ⟨A1, rfl, hR1, hA1, _⟩
      obtain ⟨f, _, rfl⟩ := hA1 HC1.out
      rw [HC1.out]
      have hc2 := init_write (f := f) hI (by omega)
      have HC2 := hid hc2
      have hk2 : (A.mapped 1 (40 : Int).toNat f true).kn < maxLen := by unfold maxLen; simp [Abs.mapped]; omega
      have HK2 := hid hk2
      clear hc2 hk2 hA1
      go_wp2_with fail
      refine (runWrite hR1 1 323 77 (in64_lit (by omega) (by omega)) HK2.out).mono ?_
      rintro e w3 ⟨A2, rfl, hR2, hA2, _⟩
      have HC2' : (A.mapped 1 (40 : Int).toNat f true).writeCode 1 323 77 = 0 := HC2.out
      obtain ⟨f', b', hpg, rfl⟩ := hA2 HC2'
      rw [HC2']
      have ef : f' = f := by simp [Abs.mapped] at hpg; exact hpg.1.symm
      subst ef
      have hrd := init_read (f := f') hI (by omega)
      have HRD := hid hrd
      have hk3 : ((A.mapped 1 (40 : Int).toNat f' true).wrote f' ((323 : Int).toNat % 8) 77).kn < maxLen := by unfold maxLen; simp [Abs.mapped, Abs.wrote]; omega
      have HK3 := hid hk3
      clear hrd hk3 hA2 hpg HC2' HC2
      go_wp2_with fail
      refine (runRead hR2 1 323 (in64_lit (by omega) (by omega)) HK3.out).mono ?_
      rintro e w4 ⟨A3, rfl, hR3, hA3⟩
      have HRD' : ((A.mapped 1 (40 : Int).toNat f' true).wrote f' ((323 : Int).toNat % 8) 77).readAt 1 323 = (77, 0) := HRD.out
      rw [HRD']
      obtain ⟨hc4, _⟩ := init_unmap (fr' := 0) hI (by omega) (by omega) hA3 hkn
      have HC4 := hid hc4
      have HA3 := hid hA3
      have hk4 : A3.kn < maxLen := by
        unfold maxLen
        rcases hA3 with rfl | rfl <;> simp [Abs.mapped, Abs.wrote, Abs.tick] <;> omega
      have HK4 := hid hk4
      clear hc4 hk4 hA3 HRD'
      go_wp2_with fail
      refine (runUnmap hR3 1 40 (in64_lit (by omega) (by omega)) HK4.out).mono ?_
      rintro e w5 ⟨A4, rfl, hR4, hA4, _⟩
      obtain ⟨fr', rfl, hfr⟩ := hA4 HC4.out
      rw [HC4.out]
      have hI4 := (init_unmap (fr' := fr') hI (by omega) (by omega) HA3.out hkn).2 hfr
      clear hA4 hfr
      go_wp2
      go_ret
      exact ⟨mb, _, rfl, hR4, hI4⟩
end Go.Proofs.Ytfcepnhknmbaaaa
