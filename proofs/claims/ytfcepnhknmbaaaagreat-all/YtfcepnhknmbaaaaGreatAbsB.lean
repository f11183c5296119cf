/- The contracts of Map, Unmap, Read, Write, Destroy in a law's words. -/
import Derived.Test.YtfcepnhknmbaaaaGreatAbs
namespace Go.Proofs.YtfcepnhknmbaaaaGreat
open Go.RowKit Go.Deep

/-- Has the guest a page in the group? -/
def Abs.grp (A : Abs) (g : Int) (k : Nat) : Bool := (List.range 8).any fun i => (A.pg g (8 * k + i)).isSome
/-- .. another one? -/
def Abs.more (A : Abs) (g : Int) (p : Nat) : Bool := (List.range 8).any fun i => decide (8 * (p / 8) + i ≠ p) && (A.pg g (8 * (p / 8) + i)).isSome
def Abs.need (A : Abs) (g : Int) (p : Nat) : Nat := if A.grp g (p / 8) then 1 else 2

theorem pgOf_isSome (x : Int) : (pgOf x).isSome = pres x := by
  simp only [pgOf]
  split
  · rename_i h; simp [h]
  · rename_i h; simp at h; simp [h]

theorem Sees.grp {S : MS} {A : Abs} {H : Hs} (h : Sees S A) (hI : Inv S H) {g : Int} {r k : Nat} (hg : S.G g = .some r) (hk : k < 8) : A.grp g k = pres (S.M.W r k) := by
  rw [Bool.eq_iff_iff, group_iff hI.full hg hk]
  simp only [Abs.grp, List.any_eq_true, List.mem_range]
  constructor
  · rintro ⟨i, hi, q⟩
    rw [h.pg g r (8 * k + i) hg (by omega), pgOf_isSome] at q
    exact ⟨8 * k + i, by omega, by omega, q⟩
  · rintro ⟨p, e, hp, q⟩
    refine ⟨p % 8, by omega, ?_⟩
    rw [show 8 * k + p % 8 = p by omega, h.pg g r p hg hp, pgOf_isSome]
    exact q

theorem Sees.more {S : MS} {A : Abs} (h : Sees S A) {g : Int} {r p : Nat} (hg : S.G g = .some r) (hp : p < 64) : A.more g p = true ↔ ∃ p', p' < 64 ∧ p' / 8 = p / 8 ∧ p' ≠ p ∧ pres (S.M.ent r p') = true := by
  simp only [Abs.more, List.any_eq_true, List.mem_range, Bool.and_eq_true, decide_eq_true_eq]
  constructor
  · rintro ⟨i, hi, q1, q⟩
    rw [h.pg g r _ hg (by omega), pgOf_isSome] at q
    exact ⟨8 * (p / 8) + i, by omega, by omega, q1, q⟩
  · rintro ⟨p', hp', e, q1, q⟩
    have e2 : 8 * (p / 8) + p' % 8 = p' := by omega
    refine ⟨p' % 8, by omega, by omega, ?_⟩
    rw [e2, h.pg g r p' hg hp', pgOf_isSome]
    exact q

/-! Map. -/
def Abs.mapCode (A : Abs) (g p : Int) : Int :=
  if A.check g (isPg p) ≠ 0 then A.check g (isPg p) else if (A.pg g p.toNat).isSome then 6 else if A.free < A.need g p.toNat then 3 else 0
def Abs.mapped (A : Abs) (g : Int) (p f : Nat) (b : Bool) : Abs :=
  { A with pg := fun g' p' => if g' = g ∧ p' = p then some (f, b) else A.pg g' p', wd := fun f' k => if f' = f then 0 else A.wd f' k, free := A.free - A.need g p, kn := A.kn + 1 }
def Abs.New (A : Abs) (f : Nat) : Prop := f < A.n ∧ ∀ g p b, p < 64 → A.pg g p ≠ some (f, b)

theorem check_good {A : Abs} {g p : Int} (h : A.check g (isPg p) = 0) : A.has g = true ∧ 0 ≤ p ∧ p < 64 := by
  cases h1 : A.has g with
  | false => simp [Abs.check, h1] at h
  | true =>
    cases h2 : isPg p with
    | false => simp [Abs.check, h1, h2] at h
    | true => exact ⟨rfl, by simpa [isPg] using h2⟩

theorem sees_mapped {S : MS} {A : Abs} {H : Hs} (hS : Sees S A) (hI : Inv S H) {g : Int} {r p f need : Nat} {b : Bool} {M' : Mm} {kb : Option Nat} {kn : Nat} {K : Int × Int → Option Int} (hg : S.G g = .some r)
    (hC : Came S.M M' S.G H g r p f b) (hf : M'.free + need = S.M.free) (hn : A.need g p = need) (hkn : kn ≤ S.kn + 1) : Sees ((S.cached kb kn K).withM M') (A.mapped g p f b) := by
  have hle := hI.ok.le
  have hfn := hC.fn
  refine ⟨by show A.n = M'.n; rw [hC.n]; exact hS.n, ?_, hS.cnt, hS.last, ?_, hS.has, ?_, ?_, ?_, hS.rt⟩
  · show A.free - A.need g p = M'.free
    rw [hn, hS.free]
    omega
  · have := hS.kn
    show kn ≤ A.kn + 1
    omega
  · intro g' r' p' hg' hp'
    have hg' : S.G g' = .some r' := hg'
    show (if g' = g ∧ p' = p then some (f, b) else A.pg g' p') = pgOf (M'.ent r' p')
    by_cases e : g' = g ∧ p' = p
    · rw [if_pos e]
      rw [e.1, hg] at hg'
      injection hg' with hg'
      rw [← hg', e.2, hC.en]
      simp only [pgOf, pres_entryOf, if_true, numb_entryOf f b (by omega), wrib_entryOf]
    · rw [if_neg e, hS.pg g' r' p' hg' hp']
      have hne : ¬ (r' = r ∧ p' = p) := fun q => e ⟨hI.ok.rootI hg' (by rw [q.1]; exact hg), q.2⟩
      have h1 := hC.oth.pr g' r' p' hg' hp' hne
      cases h2 : pres (S.M.ent r' p') with
      | true => rw [hC.oth.en g' r' p' hg' hp' hne h2]
      | false =>
        rw [h2] at h1
        simp [pgOf, h1, h2]
  · intro g' p' q
    show (if g' = g ∧ p' = p then some (f, b) else A.pg g' p') = none
    have q : S.G g' = .none := q
    rw [if_neg (fun e => by rw [e.1, hg] at q; cases q)]
    exact hS.non g' p' q
  · intro g' p' f' b' k hp' hk q
    have q : (if g' = g ∧ p' = p then some (f, b) else A.pg g' p') = .some (f', b') := q
    show (if f' = f then 0 else A.wd f' k) = M'.W f' k
    by_cases e : g' = g ∧ p' = p
    · rw [if_pos e] at q
      injection q with q
      injection q with q1 q2
      rw [if_pos q1.symm, ← q1, hC.zero]
    · rw [if_neg e] at q
      obtain ⟨r', hr'⟩ := pg_root hS q
      obtain ⟨a1, a2, _⟩ := pg_frame hS hr' hp' q
      have hne := hC.new g' r' p' hr' hp' a1
      rw [a2] at hne
      rw [if_neg hne, hS.wd g' p' f' b' k hp' hk q]
      have := hC.oth.wd g' r' p' hr' hp' a1 k
      rw [a2] at this
      exact this.symm

theorem new_of_came {S : MS} {A : Abs} {H : Hs} (hS : Sees S A) {g : Int} {r p f : Nat} {b : Bool} {M' : Mm} (hC : Came S.M M' S.G H g r p f b) : A.New f := by
  refine ⟨by rw [hS.n]; exact hC.fn, fun g' p' b' hp' q => ?_⟩
  obtain ⟨r', hr'⟩ := pg_root hS q
  obtain ⟨a1, a2, _⟩ := pg_frame hS hr' hp' q
  exact hC.new g' r' p' hr' hp' a1 a2

theorem absMap {w : World} {mb : Nat} {own : Nat → Prop} {A : Abs} (h : Rep w mb own A) (g p : Int) (b : Bool) (hg64 : In64 g) (hk : A.kn < maxLen) :
    Calls Tryz.prog 23 #[pt mb, .int .i64 g, .int .i64 p, .bool b] w fun e w' => ∃ own' A', e = .returned (.int .i64 (A.mapCode g p)) ∧ Rep w' mb own' A' ∧ Left w w' own own' ∧ (A.mapCode g p = 0 → ∃ f, A.New f ∧ A' = A.mapped g p.toNat f b) ∧ (A.mapCode g p ≠ 0 → A' = A ∨ A' = A.tick) := by
  obtain ⟨S, H, hM, hI, hS, ho⟩ := h
  by_cases hc : A.check g (isPg p) = 0
  · obtain ⟨hh, hp0, hp1⟩ := check_good hc
    obtain ⟨r, hg⟩ := hS.some hh
    have hgd := hI.good hg64 hg hp0 hp1 (Nat.lt_of_le_of_lt hS.kn hk)
    have hpg := hS.pg g r p.toNat hg (by omega)
    have hpt : A.grp g (p.toNat / 8) = pres (S.M.tbl r p.toNat) := hS.grp hI hg (by omega)
    cases hx : pres (S.M.ent r p.toNat) with
    | true =>
      have hcode : A.mapCode g p = 6 := by simp only [Abs.mapCode, hc, hpg, pgOf_isSome, hx]; simp
      refine (mapTaken_any w mb S hM g p r b hgd hx).mono ?_
      rintro e w' ⟨kb, kn, K, rfl, hM', hG, hO⟩
      obtain ⟨own', h1, h2⟩ := Rep.cached hI hS ho hg hp0 hp1 hM' hG hO
      exact ⟨own', A.tick, by rw [hcode], h1, h2, fun q => by rw [hcode] at q; omega, fun _ => Or.inr rfl⟩
    | false =>
      by_cases hf : A.free < A.need g p.toNat
      · have hcode : A.mapCode g p = 3 := by simp only [Abs.mapCode, hc, hpg, pgOf_isSome, hx, hf]; simp
        have fin : ∀ (e : Ending) (w' : World), (∃ kb kn K, e = .returned (.int .i64 3) ∧ Mach w' mb (S.cached kb kn K) ∧ Goes w.heap.size S kb kn K (g, p) (S.M.ent r p.toNat) ∧ Only (S.own mb) w w') →
            ∃ own' A', e = .returned (.int .i64 (A.mapCode g p)) ∧ Rep w' mb own' A' ∧ Left w w' own own' ∧ (A.mapCode g p = 0 → ∃ f, A.New f ∧ A' = A.mapped g p.toNat f b) ∧ (A.mapCode g p ≠ 0 → A' = A ∨ A' = A.tick) := by
          rintro e w' ⟨kb, kn, K, rfl, hM', hG, hO⟩
          obtain ⟨own', h1, h2⟩ := Rep.cached hI hS ho hg hp0 hp1 hM' hG hO
          exact ⟨own', A.tick, by rw [hcode], h1, h2, fun q => by rw [hcode] at q; omega, fun _ => Or.inr rfl⟩
        rw [hS.free] at hf
        simp only [Abs.need, hpt] at hf
        cases hy : pres (S.M.tbl r p.toNat) with
        | true =>
          rw [hy] at hf
          exact (mapFullHad_any w mb S hM g p r b hgd hx hy hf).mono fin
        | false =>
          rw [hy] at hf
          exact (mapFullNew_any w mb S hM g p r b hgd hx hy hf).mono fin
      · have hcode : A.mapCode g p = 0 := by simp only [Abs.mapCode, hc, hpg, pgOf_isSome, hx, hf]; simp
        have hnd : A.need g p.toNat = if pres (S.M.tbl r p.toNat) then 1 else 2 := by simp only [Abs.need, hpt]
        rw [hS.free, hnd] at hf
        have fin : ∀ (f need : Nat) (M' : Mm), A.need g p.toNat = need → Came S.M M' S.G H g r p.toNat f b → M'.free + need = S.M.free → ∀ (e : Ending) (w' : World), (∃ kb kn K, e = .returned (.int .i64 0) ∧ Mach w' mb ((S.cached kb kn K).withM M') ∧ Goes w.heap.size S kb kn K (g, p) (S.M.ent r p.toNat) ∧ Only (S.own mb) w w') →
            ∃ own' A', e = .returned (.int .i64 (A.mapCode g p)) ∧ Rep w' mb own' A' ∧ Left w w' own own' ∧ (A.mapCode g p = 0 → ∃ f, A.New f ∧ A' = A.mapped g p.toNat f b) ∧ (A.mapCode g p ≠ 0 → A' = A ∨ A' = A.tick) := by
          rintro f need M' h1 hC h3 e w' ⟨kb, kn, K, rfl, hM', hG, hO⟩
          refine ⟨((S.cached kb kn K).withM M').own mb, A.mapped g p.toNat f b, by rw [hcode], ⟨_, _, hM', hI.mapped hx hG hC, sees_mapped hS hI hg hC h3 h1 hG.kn, fun _ => Iff.rfl⟩, ⟨own_only ho hO, fun b hb => ?_⟩, fun _ => ⟨f, new_of_came hS hC, rfl⟩, fun q => absurd hcode q⟩
          exact (own_cached hG b hb).imp (fun q => (ho b).2 q) id
        have hf1 : 1 ≤ S.M.free := by split at hf <;> omega
        obtain ⟨f, hff⟩ := Mm.first_some hf1
        cases hy : pres (S.M.tbl r p.toNat) with
        | true =>
          obtain ⟨hC, hfr⟩ := came_had hI.ok hI.full b hg (p := p.toNat) (by omega) hx hy hff
          exact (mapHad_any w mb S hM g p r f b hgd hx hy hf1 hff).mono (fin f 1 _ (by rw [hnd, hy]; rfl) hC hfr)
        | false =>
          rw [hy] at hf
          have hf2 : 2 ≤ S.M.free := by simpa using hf
          obtain ⟨hfn, hu⟩ := first_lt hff
          have h1 := take_free hfn hu
          obtain ⟨t, htt⟩ := Mm.first_some (M := S.M.take f) (by omega)
          obtain ⟨hC, hfr⟩ := came_new hI.ok hI.full b hg (p := p.toNat) (by omega) hy hff htt
          exact (mapNew_any w mb S hM g p r f b hgd hx hy hf2 hff t htt).mono (fin f 2 _ (by rw [hnd, hy]; rfl) hC hfr)
  · have hcode : A.mapCode g p = A.check g (isPg p) := by simp only [Abs.mapCode]; rw [if_pos hc]
    have hc' : checkE S g (isPg p) ≠ 0 := by rw [hS.check]; exact hc
    refine (mapBad_any w mb S hM g p b hg64 hc').mono ?_
    rintro e w' ⟨rfl, hO⟩
    refine ⟨own, A, by rw [hcode, hS.check], ⟨S, H, hM.nob hO, hI, hS, ho⟩, ⟨hO.of_nob, fun b q => Or.inl q⟩, fun q => ?_, fun _ => Or.inl rfl⟩
    rw [hcode] at q
    exact absurd q hc

/-! Unmap. -/
def Abs.unmapCode (A : Abs) (g p : Int) : Int := if A.check g (isPg p) ≠ 0 then A.check g (isPg p) else if (A.pg g p.toNat).isSome then 0 else 7
def Abs.unmapped (A : Abs) (g : Int) (p fr : Nat) : Abs := { A with pg := fun g' p' => if g' = g ∧ p' = p then none else A.pg g' p', free := fr, kn := A.kn + 1 }
/-- The page is this guest's alone, and there alone. -/
def Abs.lone (A : Abs) (g : Int) (p : Nat) : Prop := ∀ f b g' p' b', A.pg g p = some (f, b) → p' < 64 → A.pg g' p' = some (f, b') → g' = g ∧ p' = p

theorem hold_lone {S : MS} {A : Abs} {H : Hs} (hS : Sees S A) (hI : Inv S H) {g : Int} {r p : Nat} (hg : S.G g = .some r) (hp : p < 64) (hx : pres (S.M.ent r p) = true) (hl : A.lone g p) : S.M.U (numb (S.M.ent r p)) = 1 := by
  obtain ⟨a, b, c⟩ := hI.ok.pageN hg hp hx
  rw [hI.ok.hU _ a b c]
  have hm : (g, p) ∈ H (numb (S.M.ent r p)) := (hI.ok.hIn _ _ _).2 ⟨hp, r, hg, hx, rfl⟩
  have hpg : A.pg g p = some (numb (S.M.ent r p), wrib (S.M.ent r p)) := by rw [hS.pg g r p hg hp]; simp [pgOf, hx]
  have hall : ∀ x ∈ H (numb (S.M.ent r p)), x = (g, p) := by
    rintro ⟨g', p'⟩ hm'
    obtain ⟨hp', r', hg', hx', hn'⟩ := (hI.ok.hIn _ _ _).1 hm'
    have hpg' : A.pg g' p' = some (numb (S.M.ent r p), wrib (S.M.ent r' p')) := by rw [hS.pg g' r' p' hg' hp']; simp [pgOf, hx', hn']
    obtain ⟨e1, e2⟩ := hl _ _ g' p' _ hpg hp' hpg'
    rw [e1, e2]
  have hnd := hI.ok.hNd (numb (S.M.ent r p))
  cases hL : H (numb (S.M.ent r p)) with
  | nil => rw [hL] at hm; cases hm
  | cons x l =>
    cases l with
    | nil => rfl
    | cons y l =>
      rw [hL] at hall hnd
      have e1 := hall x (by simp)
      have e2 := hall y (by simp)
      have := (List.nodup_cons.1 hnd).1
      rw [e1, e2] at this
      simp at this

theorem sees_unmapped {S : MS} {A : Abs} {H : Hs} (hS : Sees S A) (hI : Inv S H) {g p : Int} {r : Nat} {M' : Mm} {kb : Option Nat} {kn : Nat} {K : Int × Int → Option Int} (hg : S.G g = .some r)
    (hC : Went S.M M' S.G H g r p.toNat) (hkn : kn ≤ S.kn + 1) : Sees ((S.cached kb kn K).unmapped (g, p) M') (A.unmapped g p.toNat M'.free) := by
  refine ⟨by show A.n = M'.n; rw [hC.n]; exact hS.n, rfl, hS.cnt, hS.last, ?_, hS.has, ?_, ?_, ?_, hS.rt⟩
  · have := hS.kn
    show kn ≤ A.kn + 1
    omega
  · intro g' r' p' hg' hp'
    have hg' : S.G g' = .some r' := hg'
    show (if g' = g ∧ p' = p.toNat then none else A.pg g' p') = pgOf (M'.ent r' p')
    by_cases e : g' = g ∧ p' = p.toNat
    · rw [if_pos e]
      rw [e.1, hg] at hg'
      injection hg' with hg'
      rw [← hg', e.2]
      simp [pgOf, hC.abs]
    · rw [if_neg e, hS.pg g' r' p' hg' hp']
      have hne : ¬ (r' = r ∧ p' = p.toNat) := fun q => e ⟨hI.ok.rootI hg' (by rw [q.1]; exact hg), q.2⟩
      have h1 := hC.oth.pr g' r' p' hg' hp' hne
      cases h2 : pres (S.M.ent r' p') with
      | true => rw [hC.oth.en g' r' p' hg' hp' hne h2]
      | false =>
        rw [h2] at h1
        simp [pgOf, h1, h2]
  · intro g' p' q
    show (if g' = g ∧ p' = p.toNat then none else A.pg g' p') = none
    have q : S.G g' = .none := q
    rw [hS.non g' p' q]
    split <;> rfl
  · intro g' p' f' b' k hp' hk q
    have q : (if g' = g ∧ p' = p.toNat then none else A.pg g' p') = .some (f', b') := q
    show A.wd f' k = M'.W f' k
    by_cases e : g' = g ∧ p' = p.toNat
    · rw [if_pos e] at q
      cases q
    · rw [if_neg e] at q
      obtain ⟨r', hr'⟩ := pg_root hS q
      obtain ⟨a1, a2, _⟩ := pg_frame hS hr' hp' q
      rw [hS.wd g' p' f' b' k hp' hk q]
      have := hC.oth.wd g' r' p' hr' hp' a1 k
      rw [a2] at this
      exact this.symm

theorem absUnmap {w : World} {mb : Nat} {own : Nat → Prop} {A : Abs} (h : Rep w mb own A) (g p : Int) (hg64 : In64 g) (hk : A.kn < maxLen) :
    Calls Tryz.prog 25 #[pt mb, .int .i64 g, .int .i64 p] w fun e w' => ∃ own' A', e = .returned (.int .i64 (A.unmapCode g p)) ∧ Rep w' mb own' A' ∧ Left w w' own own' ∧
      (A.unmapCode g p = 0 → ∃ fr, A' = A.unmapped g p.toNat fr ∧ (A.lone g p.toNat → fr = A.free + 1 + (if A.more g p.toNat then 0 else 1))) ∧ (A.unmapCode g p ≠ 0 → A' = A ∨ A' = A.tick) := by
  obtain ⟨S, H, hM, hI, hS, ho⟩ := h
  by_cases hc : A.check g (isPg p) = 0
  · obtain ⟨hh, hp0, hp1⟩ := check_good hc
    obtain ⟨r, hg⟩ := hS.some hh
    have hgd := hI.good hg64 hg hp0 hp1 (Nat.lt_of_le_of_lt hS.kn hk)
    have hpg := hS.pg g r p.toNat hg (by omega)
    cases hx : pres (S.M.ent r p.toNat) with
    | false =>
      have hcode : A.unmapCode g p = 7 := by simp only [Abs.unmapCode, hc, hpg, pgOf_isSome, hx]; simp
      refine (unmapAbsent_any w mb S hM g p r hgd hx).mono ?_
      rintro e w' ⟨kb, kn, K, rfl, hM', hG, hO⟩
      obtain ⟨own', h1, h2⟩ := Rep.cached hI hS ho hg hp0 hp1 hM' hG hO
      exact ⟨own', A.tick, by rw [hcode], h1, h2, fun q => by rw [hcode] at q; omega, fun _ => Or.inr rfl⟩
    | true =>
      have hcode : A.unmapCode g p = 0 := by simp only [Abs.unmapCode, hc, hpg, pgOf_isSome, hx]; simp
      have hC := went hI.ok hI.full hg (p := p.toNat) (by omega) hx
      refine (unmapGood_any w mb S hM g p r hgd (hI.ok.sound hg (by omega)) hx).mono ?_
      rintro e w' ⟨kb, kn, K, rfl, hM', hG, hO⟩
      refine ⟨((S.cached kb kn K).unmapped (g, p) (S.M.remove r p.toNat)).own mb, A.unmapped g p.toNat (S.M.remove r p.toNat).free, by rw [hcode], ⟨_, _, hM', hI.unmapped hg hp0 hG hC, sees_unmapped hS hI hg hC hG.kn, fun _ => Iff.rfl⟩, ⟨own_only ho hO, fun b hb => (own_cached hG b hb).imp (fun q => (ho b).2 q) id⟩, fun _ => ⟨_, rfl, fun hl => ?_⟩, fun q => absurd hcode q⟩
      have hU := hold_lone hS hI hg (by omega) hx hl
      rw [hS.free]
      by_cases hm : A.more g p.toNat = true
      · rw [hC.freeMore ((hS.more hg (by omega)).1 hm), if_pos hU, if_pos hm]
      · rw [hC.freeLast (fun q => hm ((hS.more hg (by omega)).2 q)), if_pos hU, if_neg hm]
  · have hcode : A.unmapCode g p = A.check g (isPg p) := by simp only [Abs.unmapCode]; rw [if_pos hc]
    have hc' : checkE S g (isPg p) ≠ 0 := by rw [hS.check]; exact hc
    refine (unmapBad_any w mb S hM g p hg64 hc').mono ?_
    rintro e w' ⟨rfl, hO⟩
    refine ⟨own, A, by rw [hcode, hS.check], ⟨S, H, hM.nob hO, hI, hS, ho⟩, ⟨hO.of_nob, fun b q => Or.inl q⟩, fun q => ?_, fun _ => Or.inl rfl⟩
    rw [hcode] at q
    exact absurd q hc

/-! Read. -/
def Abs.readAt (A : Abs) (g a : Int) : Int × Int :=
  if A.check g (isAd a) ≠ 0 then (0, A.check g (isAd a)) else match A.pg g (a.toNat / 8) with
    | none => (0, 7)
    | some (f, _) => (A.wd f (a.toNat % 8), 0)

theorem check_addr {A : Abs} {g a : Int} (h : A.check g (isAd a) = 0) : A.has g = true ∧ 0 ≤ a ∧ a < 512 := by
  cases h1 : A.has g with
  | false => simp [Abs.check, h1] at h
  | true =>
    cases h2 : isAd a with
    | false => simp [Abs.check, h1, h2] at h
    | true => exact ⟨rfl, by simpa [isAd] using h2⟩

theorem absRead {w : World} {mb : Nat} {own : Nat → Prop} {A : Abs} (h : Rep w mb own A) (g a : Int) (hg64 : In64 g) (hk : A.kn < maxLen) :
    Calls Tryz.prog 27 #[pt mb, .int .i64 g, .int .i64 a] w fun e w' => ∃ own' A', e = .returned (.tuple #[.int .i64 (A.readAt g a).1, .int .i64 (A.readAt g a).2]) ∧ Rep w' mb own' A' ∧ Left w w' own own' ∧ (A' = A ∨ A' = A.tick) := by
  obtain ⟨S, H, hM, hI, hS, ho⟩ := h
  by_cases hc : A.check g (isAd a) = 0
  · obtain ⟨hh, ha0, ha1⟩ := check_addr hc
    obtain ⟨r, hg⟩ := hS.some hh
    have hp0 : 0 ≤ a / 8 := by omega
    have hp1 : a / 8 < 64 := by omega
    have hgd := hI.good hg64 hg hp0 hp1 (Nat.lt_of_le_of_lt hS.kn hk)
    have e8 : (a / 8).toNat = a.toNat / 8 := by omega
    have hpg := hS.pg g r (a.toNat / 8) hg (by omega)
    cases hx : pres (S.M.ent r (a / 8).toNat) with
    | false =>
      have hr : A.readAt g a = (0, 7) := by
        rw [e8] at hx
        simp only [Abs.readAt, hc, hpg, pgOf, hx]
        simp
      refine (readAbsent_any w mb S hM g a r ha0 ha1 hgd hx).mono ?_
      rintro e w' ⟨kb, kn, K, rfl, hM', hG, hO⟩
      obtain ⟨own', h1, h2⟩ := Rep.cached hI hS ho hg hp0 hp1 hM' hG hO
      exact ⟨own', A.tick, by rw [hr], h1, h2, Or.inr rfl⟩
    | true =>
      have hx' := hx
      rw [e8] at hx'
      have hpg2 : A.pg g (a.toNat / 8) = some (numb (S.M.ent r (a.toNat / 8)), wrib (S.M.ent r (a.toNat / 8))) := by rw [hpg]; simp [pgOf, hx']
      have hr : A.readAt g a = (S.M.W (numb (S.M.ent r (a / 8).toNat)) (a.toNat % 8), 0) := by
        simp only [Abs.readAt, hc, hpg2, e8]
        rw [hS.wd g (a.toNat / 8) _ _ (a.toNat % 8) (by omega) (by omega) hpg2]
        simp
      refine (readGood_any w mb S hM g a r ha0 ha1 hgd hx (hI.ok.pageN hg (p := (a / 8).toNat) (by omega) hx).1).mono ?_
      rintro e w' ⟨kb, kn, K, rfl, hM', hG, hO⟩
      obtain ⟨own', h1, h2⟩ := Rep.cached hI hS ho hg hp0 hp1 hM' hG hO
      exact ⟨own', A.tick, by rw [hr], h1, h2, Or.inr rfl⟩
  · have hr : A.readAt g a = (0, A.check g (isAd a)) := by simp only [Abs.readAt]; rw [if_pos hc]
    have hc' : checkE S g (isAd a) ≠ 0 := by rw [hS.check]; exact hc
    refine (readBad_any w mb S hM g a hg64 hc').mono ?_
    rintro e w' ⟨rfl, hO⟩
    exact ⟨own, A, by rw [hr, hS.check], ⟨S, H, hM.nob hO, hI, hS, ho⟩, ⟨hO.of_nob, fun b q => Or.inl q⟩, Or.inl rfl⟩

/-! Write. -/
def Abs.writeCode (A : Abs) (g a v : Int) : Int :=
  if A.check g (isAd a) ≠ 0 then A.check g (isAd a) else if v < 0 ∨ 65535 < v then 9 else match A.pg g (a.toNat / 8) with
    | none => 7
    | some (_, b) => if b then 0 else 8
def Abs.wrote (A : Abs) (f k : Nat) (v : Int) : Abs := { A with wd := fun f' k' => if f' = f ∧ k' = k then v else A.wd f' k', kn := A.kn + 1 }

theorem absWrite {w : World} {mb : Nat} {own : Nat → Prop} {A : Abs} (h : Rep w mb own A) (g a v : Int) (hg64 : In64 g) (hk : A.kn < maxLen) :
    Calls Tryz.prog 29 #[pt mb, .int .i64 g, .int .i64 a, .int .i64 v] w fun e w' => ∃ own' A', e = .returned (.int .i64 (A.writeCode g a v)) ∧ Rep w' mb own' A' ∧ Left w w' own own' ∧
      (A.writeCode g a v = 0 → ∃ f b, A.pg g (a.toNat / 8) = some (f, b) ∧ A' = A.wrote f (a.toNat % 8) v) ∧ (A.writeCode g a v ≠ 0 → A' = A ∨ A' = A.tick) := by
  obtain ⟨S, H, hM, hI, hS, ho⟩ := h
  by_cases hc : A.check g (isAd a) = 0
  · obtain ⟨hh, ha0, ha1⟩ := check_addr hc
    obtain ⟨r, hg⟩ := hS.some hh
    have hp0 : 0 ≤ a / 8 := by omega
    have hp1 : a / 8 < 64 := by omega
    have hgd := hI.good hg64 hg hp0 hp1 (Nat.lt_of_le_of_lt hS.kn hk)
    have e8 : (a / 8).toNat = a.toNat / 8 := by omega
    have hpg := hS.pg g r (a.toNat / 8) hg (by omega)
    by_cases hv : v < 0 ∨ 65535 < v
    · have hcode : A.writeCode g a v = 9 := by simp only [Abs.writeCode, hc, hv]; simp
      have hc' : checkE S g (isAd a) = 0 := by rw [hS.check]; exact hc
      refine (writeValue_any w mb S hM g a v hg64 hc' hv).mono ?_
      rintro e w' ⟨rfl, hO⟩
      exact ⟨own, A, by rw [hcode], ⟨S, H, hM.nob hO, hI, hS, ho⟩, ⟨hO.of_nob, fun b q => Or.inl q⟩, fun q => by rw [hcode] at q; omega, fun _ => Or.inl rfl⟩
    · cases hx : pres (S.M.ent r (a / 8).toNat) with
      | false =>
        have hcode : A.writeCode g a v = 7 := by
          rw [e8] at hx
          simp only [Abs.writeCode, hc, hv, hpg, pgOf, hx]
          simp
        refine (writeAbsent_any w mb S hM g a v r ha0 ha1 (by omega) (by omega) hgd hx).mono ?_
        rintro e w' ⟨kb, kn, K, rfl, hM', hG, hO⟩
        obtain ⟨own', h1, h2⟩ := Rep.cached hI hS ho hg hp0 hp1 hM' hG hO
        exact ⟨own', A.tick, by rw [hcode], h1, h2, fun q => by rw [hcode] at q; omega, fun _ => Or.inr rfl⟩
      | true =>
        have hx' := hx
        rw [e8] at hx'
        have hpg2 : A.pg g (a.toNat / 8) = some (numb (S.M.ent r (a.toNat / 8)), wrib (S.M.ent r (a.toNat / 8))) := by rw [hpg]; simp [pgOf, hx']
        cases hw : wrib (S.M.ent r (a / 8).toNat) with
        | false =>
          have hcode : A.writeCode g a v = 8 := by
            rw [e8] at hw
            simp only [Abs.writeCode, hc, hv, hpg2, hw]
            simp
          refine (writeDenied_any w mb S hM g a v r ha0 ha1 (by omega) (by omega) hgd hx hw).mono ?_
          rintro e w' ⟨kb, kn, K, rfl, hM', hG, hO⟩
          obtain ⟨own', h1, h2⟩ := Rep.cached hI hS ho hg hp0 hp1 hM' hG hO
          exact ⟨own', A.tick, by rw [hcode], h1, h2, fun q => by rw [hcode] at q; omega, fun _ => Or.inr rfl⟩
        | true =>
          have hcode : A.writeCode g a v = 0 := by
            rw [e8] at hw
            simp only [Abs.writeCode, hc, hv, hpg2, hw]
            simp
          refine (writeGood_any w mb S hM g a v r ha0 ha1 (by omega) (by omega) hgd hx hw (hI.ok.pageN hg (p := (a / 8).toNat) (by omega) hx).1).mono ?_
          rintro e w' ⟨kb, kn, K, rfl, hM', hG, hO⟩
          obtain ⟨hE, hI'⟩ := hI.wrote (k := a.toNat % 8) (v := v) hg hp0 hp1 hx hG
          have hpg3 : A.pg g (a.toNat / 8) = some (numb (S.M.ent r (a / 8).toNat), wrib (S.M.ent r (a / 8).toNat)) := by rw [e8]; exact hpg2
          generalize numb (S.M.ent r (a / 8).toNat) = f at *
          refine ⟨((S.cached kb kn K).withM (S.M.setW f (a.toNat % 8) v)).own mb, A.wrote f (a.toNat % 8) v, by rw [hcode], ⟨_, _, hM', hI', ?_, fun _ => Iff.rfl⟩, ⟨own_only ho hO, fun b hb => (own_cached hG b hb).imp (fun q => (ho b).2 q) id⟩, fun _ => ⟨f, _, hpg3, rfl⟩, fun q => absurd hcode q⟩
          refine ⟨hS.n, hS.free, hS.cnt, hS.last, ?_, hS.has, ?_, hS.non, ?_, hS.rt⟩
          · have h1 := hS.kn
            have h2 := hG.kn
            show kn ≤ A.kn + 1
            omega
          · intro g' r' p' hg' hp'
            show A.pg g' p' = pgOf ((S.M.setW f (a.toNat % 8) v).ent r' p')
            rw [hE g' r' p' hg' hp']
            exact hS.pg g' r' p' hg' hp'
          · intro g' p' f' b' k hp' hk' q
            have q : A.pg g' p' = .some (f', b') := q
            show (if f' = f ∧ k = a.toNat % 8 then v else A.wd f' k) = (S.M.setW f (a.toNat % 8) v).W f' k
            rw [hS.wd g' p' f' b' k hp' hk' q]
            rfl
  · have hcode : A.writeCode g a v = A.check g (isAd a) := by simp only [Abs.writeCode]; rw [if_pos hc]
    have hc' : checkE S g (isAd a) ≠ 0 := by rw [hS.check]; exact hc
    refine (writeBad_any w mb S hM g a v hg64 hc').mono ?_
    rintro e w' ⟨rfl, hO⟩
    refine ⟨own, A, by rw [hcode, hS.check], ⟨S, H, hM.nob hO, hI, hS, ho⟩, ⟨hO.of_nob, fun b q => Or.inl q⟩, fun q => ?_, fun _ => Or.inl rfl⟩
    rw [hcode] at q
    exact absurd q hc

/-! Destroy. -/
def Abs.destroyed (A : Abs) (g : Int) (fr : Nat) : Abs :=
  { A with has := fun g' => if g' = g then false else A.has g', pg := fun g' p' => if g' = g then none else A.pg g' p', cnt := A.cnt - 1, free := fr }

theorem unuse_n (M : Mm) (f : Nat) : (M.unuse f).n = M.n := rfl
theorem ended_n (M : Mm) (r : Nat) : (M.ended r).n = M.n := endTo_n M r 64
theorem destroyed_own (S : MS) (g : Int) (r mb b : Nat) : (S.destroyed g r).own mb b ↔ S.own mb b := by
  simp only [MS.own, MS.destroyed]

theorem absDestroy {w : World} {mb : Nat} {own : Nat → Prop} {A : Abs} (h : Rep w mb own A) (g : Int) (hg64 : In64 g) :
    Calls Tryz.prog 21 #[pt mb, .int .i64 g] w fun e w' => ∃ own' A', e = .returned (.int .i64 (if A.has g then 0 else 4)) ∧ Rep w' mb own' A' ∧ Left w w' own own' ∧
      (A.has g = true → ∃ fr, A' = A.destroyed g fr ∧ ((∀ g', g' ≠ g → A.has g' = false) → fr = A.n) ∧ (∀ g1, g1 ≠ g → A.has g1 = true → (∀ g', g' ≠ g → g' ≠ g1 → A.has g' = false) → (∀ p, p < 64 → A.pg g1 p = none) → fr + 1 = A.n)) ∧ (A.has g = false → A' = A) := by
  obtain ⟨S, H, hM, hI, hS, ho⟩ := h
  cases hh : A.has g with
  | false =>
    refine (destroyNone_any w mb S hM g hg64 (hS.none hh)).mono ?_
    rintro e w' ⟨rfl, hO⟩
    exact ⟨own, A, by simp, ⟨S, H, hM.nob hO, hI, hS, ho⟩, ⟨hO.of_nob, fun b q => Or.inl q⟩, fun q => (by cases q), fun _ => rfl⟩
  | true =>
    obtain ⟨r, hg⟩ := hS.some hh
    obtain ⟨s1, s2⟩ := endTo_sound hI.ok hI.full hg
    obtain ⟨H', hI', hA⟩ := hI.destroyed hg
    refine (destroySome_any w mb S hM g r hg64 hg (hI.ok.rootN hg).1 s1 s2).mono ?_
    rintro e w' ⟨rfl, hM', hO⟩
    have hn' : ((S.M.ended r).unuse r).n = S.M.n := (unuse_n _ _).trans (ended_n _ _)
    have hGd : ∀ g', (S.destroyed g r).G g' = if g' = g then .none else S.G g' := fun _ => by simp only [MS.destroyed]
    have hMd : (S.destroyed g r).M = (S.M.ended r).unuse r := by simp only [MS.destroyed]
    have hown : ∀ b, (S.destroyed g r).own mb b ↔ S.own mb b := destroyed_own S g r mb
    have hcd : (S.destroyed g r).cnt = S.cnt - 1 := by simp only [MS.destroyed]
    have hld : (S.destroyed g r).last = S.last := by simp only [MS.destroyed]
    have hkd : (S.destroyed g r).kn = S.kn := by simp only [MS.destroyed]
    have hrd : (S.destroyed g r).Rt = S.Rt := by simp only [MS.destroyed]
    generalize S.destroyed g r = S' at *
    rw [← hMd] at hA hn'
    clear s1 s2 hMd
    refine ⟨S'.own mb, A.destroyed g S'.M.free, by simp, ⟨S', H', hM', hI', ?_, fun _ => Iff.rfl⟩, ⟨own_only ho hO, fun b q => Or.inl ((ho b).2 ((hown b).1 q))⟩, fun _ => ⟨_, rfl, ?_, ?_⟩, fun q => (by cases q)⟩
    · refine ⟨by show A.n = S'.M.n; rw [hn', hS.n], rfl, by rw [hcd, ← hS.cnt]; rfl, by rw [hld, ← hS.last]; rfl, by rw [hkd]; exact hS.kn, ?_, ?_, ?_, ?_, ?_⟩
      · intro g'
        show (if g' = g then false else A.has g') = _
        rw [hGd g']
        split
        · rfl
        · exact hS.has g'
      · intro g' r' p' q hp'
        rw [hGd g'] at q
        show (if g' = g then none else A.pg g' p') = _
        by_cases e : g' = g
        · rw [if_pos e] at q
          cases q
        · rw [if_neg e] at q ⊢
          rw [hS.pg g' r' p' q hp']
          have h1 := hA.pr g' r' p' q e hp'
          cases h2 : pres (S.M.ent r' p') with
          | true => rw [hA.en g' r' p' q e hp' h2]
          | false =>
            rw [h2] at h1
            simp [pgOf, h1, h2]
      · intro g' p' q
        rw [hGd g'] at q
        show (if g' = g then none else A.pg g' p') = none
        by_cases e : g' = g
        · rw [if_pos e]
        · rw [if_neg e] at q ⊢
          exact hS.non g' p' q
      · intro g' p' f' b' k hp' hk' q
        have q : (if g' = g then none else A.pg g' p') = .some (f', b') := q
        show A.wd f' k = _
        by_cases e : g' = g
        · rw [if_pos e] at q
          cases q
        · rw [if_neg e] at q
          obtain ⟨r', hr'⟩ := pg_root hS q
          obtain ⟨a1, a2, _⟩ := pg_frame hS hr' hp' q
          rw [hS.wd g' p' f' b' k hp' hk' q]
          have := hA.wd g' r' p' hr' e hp' a1 k
          rw [a2] at this
          exact this.symm
      · intro g' r' q
        rw [hGd g'] at q
        by_cases e : g' = g
        · rw [if_pos e] at q
          cases q
        · rw [if_neg e] at q
          rw [hrd]
          exact hS.rt g' r' q
    · intro hnone
      rw [free_none hI'.ok (fun g' => ?_), hn', hS.n]
      rw [hGd g']
      by_cases e : g' = g
      · rw [if_pos e]
      · rw [if_neg e]
        exact hS.none (hnone g' e)
    · intro g1 hne h1 hnone hpg
      obtain ⟨r1, hr1⟩ := hS.some h1
      have := free_one (g := g1) (r := r1) hI'.ok hI'.full (by rw [hGd g1, if_neg hne]; exact hr1) (fun g' hg' => ?_) (fun p hp => ?_)
      · rw [this, hn', hS.n]
      · rw [hGd g']
        by_cases e : g' = g
        · rw [if_pos e]
        · rw [if_neg e]
          exact hS.none (hnone g' e hg')
      · rw [hA.pr g1 r1 p hr1 hne hp]
        have h2 := hS.pg g1 r1 p hr1 hp
        rw [hpg p hp] at h2
        rw [← pgOf_isSome, ← h2]
        rfl
end Go.Proofs.YtfcepnhknmbaaaaGreat
