/- The contracts of Root, Load, Store, Share in a law's words. -/
import Derived.Test.YtfcepnhknmbaaaaGreatAbsB
import Derived.Test.YtfcepnhknmbaaaaGreatTopM
import Derived.Test.YtfcepnhknmbaaaaGreatShareWalk
namespace Go.Proofs.YtfcepnhknmbaaaaGreat
open Go.RowKit Go.Deep

/-! Root. -/
def Abs.rooted (A : Abs) (g p : Int) : Abs := { A with rt := fun g' => if g' = g then p else A.rt g' }
def Abs.rootCode (A : Abs) (g p : Int) : Int := A.check g (isRt p)

theorem check_rt {A : Abs} {g p : Int} (h : A.check g (isRt p) = 0) : A.has g = true ∧ -1 ≤ p ∧ p < 64 := by
  cases h1 : A.has g with
  | false => simp [Abs.check, h1] at h
  | true =>
    cases h2 : isRt p with
    | false => simp [Abs.check, h1, h2] at h
    | true => exact ⟨rfl, by simpa [isRt] using h2⟩

theorem absRoot {w : World} {mb : Nat} {own : Nat → Prop} {A : Abs} (h : Rep w mb own A) (g p : Int) (hg64 : In64 g) :
    Calls Tryz.prog 33 #[pt mb, .int .i64 g, .int .i64 p] w fun e w' => ∃ own' A', e = .returned (.int .i64 (A.rootCode g p)) ∧ Rep w' mb own' A' ∧ Left w w' own own' ∧ (A.rootCode g p = 0 → A' = A.rooted g p) ∧ (A.rootCode g p ≠ 0 → A' = A) := by
  obtain ⟨S, H, hM, hI, hS, ho⟩ := h
  by_cases hc : A.check g (isRt p) = 0
  · obtain ⟨hh, hp0, hp1⟩ := check_rt hc
    obtain ⟨r, hg⟩ := hS.some hh
    refine (rootGood_any w mb S hM g p r hg64 hg (by simp [isRt, hp0, hp1]) (by have := hI.c4; unfold maxLen; omega)).mono ?_
    rintro e w' ⟨rfl, hM', hO⟩
    refine ⟨(S.rooted g p).own mb, A.rooted g p, by rw [Abs.rootCode, hc], ⟨_, H, hM', ⟨hI.ok, hI.full, hI.gpos, hI.coh, hI.gl, hI.c4, ?_⟩, ⟨hS.n, hS.free, hS.cnt, hS.last, hS.kn, hS.has, hS.pg, hS.non, hS.wd, ?_⟩, fun _ => Iff.rfl⟩, ⟨own_only ho hO, fun b q => Or.inl ((ho b).2 q)⟩, fun _ => rfl, fun q => absurd hc q⟩
    · intro g' r' q
      show -1 ≤ (if g' = g then p else S.Rt g') ∧ (if g' = g then p else S.Rt g') < 64
      by_cases e : g' = g
      · rw [if_pos e]; exact ⟨hp0, hp1⟩
      · rw [if_neg e]; exact hI.rt q
    · intro g' r' q
      show (if g' = g then p else A.rt g') = (if g' = g then p else S.Rt g')
      by_cases e : g' = g
      · rw [if_pos e, if_pos e]
      · rw [if_neg e, if_neg e]; exact hS.rt g' r' q
  · have hc' : checkE S g (isRt p) ≠ 0 := by rw [hS.check]; exact hc
    refine (rootBad_any w mb S hM g p hg64 hc').mono ?_
    rintro e w' ⟨rfl, hO⟩
    exact ⟨own, A, by rw [hS.check]; rfl, ⟨S, H, hM.nob hO, hI, hS, ho⟩, ⟨hO.of_nob, fun b q => Or.inl q⟩, fun q => absurd q hc, fun _ => rfl⟩

/-! The cache may have grown. -/
def Abs.up (A : Abs) (n : Nat) : Abs := { A with kn := A.kn + n }

theorem Rep.after {w w' : World} {mb n : Nat} {own : Nat → Prop} {A : Abs} {S : MS} {H : Hs} (hS : Sees S A) (ho : ∀ b, own b ↔ S.own mb b) (h : After w w' mb S H n) :
    ∃ own', Rep w' mb own' (A.up n) ∧ Left w w' own own' := by
  obtain ⟨kb, kn, K, h⟩ := h
  refine ⟨(S.cached kb kn K).own mb, ⟨_, H, h.m, h.i, ⟨hS.n, hS.free, hS.cnt, hS.last, ?_, hS.has, hS.pg, hS.non, hS.wd, hS.rt⟩, fun _ => Iff.rfl⟩, ⟨own_only ho h.o, fun b hb => ?_⟩⟩
  · have h1 := h.kn
    have h2 := hS.kn
    show kn ≤ A.kn + n
    omega
  · rcases hb with q | q | q | q | q
    · exact Or.inl ((ho b).2 (Or.inl q))
    · exact Or.inl ((ho b).2 (Or.inr (Or.inl q)))
    · exact Or.inl ((ho b).2 (Or.inr (Or.inr (Or.inl q))))
    · exact Or.inl ((ho b).2 (Or.inr (Or.inr (Or.inr (Or.inl q)))))
    · exact (h.kb b q).imp (fun q => (ho b).2 (Or.inr (Or.inr (Or.inr (Or.inr q))))) id

theorem Rep.afterM {w w' : World} {mb n : Nat} {own : Nat → Prop} {A' : Abs} {S : MS} {H H' : Hs} {M' : Mm} (ho : ∀ b, own b ↔ S.own mb b) (h : AfterM w w' mb S H n M')
    (hI : ∀ kb kn K, Inv (S.cached kb kn K) H → Inv ((S.cached kb kn K).withM M') H') (hS : ∀ kb kn K, kn ≤ S.kn + n → Sees ((S.cached kb kn K).withM M') A') :
    ∃ own', Rep w' mb own' A' ∧ Left w w' own own' := by
  obtain ⟨kb, kn, K, h⟩ := h
  refine ⟨((S.cached kb kn K).withM M').own mb, ⟨_, H', h.m, hI _ _ _ h.i, hS _ _ _ h.kn, fun _ => Iff.rfl⟩, ⟨own_only ho h.o, fun b hb => ?_⟩⟩
  rcases hb with q | q | q | q | q
  · exact Or.inl ((ho b).2 (Or.inl q))
  · exact Or.inl ((ho b).2 (Or.inr (Or.inl q)))
  · exact Or.inl ((ho b).2 (Or.inr (Or.inr (Or.inl q))))
  · exact Or.inl ((ho b).2 (Or.inr (Or.inr (Or.inr (Or.inl q)))))
  · exact (h.kb b q).imp (fun q => (ho b).2 (Or.inr (Or.inr (Or.inr (Or.inr q))))) id

theorem Rep.up {w : World} {mb : Nat} {own : Nat → Prop} {A : Abs} (h : Rep w mb own A) (n : Nat) : Rep w mb own (A.up n) := by
  obtain ⟨S, H, hM, hI, hS, ho⟩ := h
  exact ⟨S, H, hM, hI, ⟨hS.n, hS.free, hS.cnt, hS.last, by have := hS.kn; show S.kn ≤ A.kn + n; omega, hS.has, hS.pg, hS.non, hS.wd, hS.rt⟩, ho⟩

/-! Load and Store. -/
/-- The levels, by the pages that the guest sees: the frame, the fault's kind and level. -/
def Abs.lev (A : Abs) (g : Int) (p : Nat) (st : Bool) : Nat → Nat → Nat × Int × Int
  | 0, q => match A.pg g q with
    | none => (0, 3, 3)
    | some (f, b) => if st && !b then (0, 4, 3) else (f, 0, 0)
  | n + 1, q => match A.pg g q with
    | none => (0, 3, 2 - n)
    | some (f, _) => if pres (A.wd f (idx (2 - n) p)) then (if st && !wrib (A.wd f (idx (2 - n) p)) then (0, 2, 2 - n) else A.lev g p st n (numb (A.wd f (idx (2 - n) p)))) else (0, 1, 2 - n)
def Abs.turned (A : Abs) (g : Int) (p : Nat) (st : Bool) : Nat × Int × Int := if A.rt g = -1 then A.lev g p st 0 p else A.lev g p st 2 (A.rt g).toNat

theorem idx_lt {p : Nat} (hp : p < 64) (l : Int) : idx l p < 8 := by
  simp only [idx]
  split <;> omega

theorem Sees.lev {S : MS} {A : Abs} (hS : Sees S A) {g : Int} {r p : Nat} (hg : S.G g = .some r) (hp : p < 64) (st : Bool) : ∀ n q, q < 64 → (A.lev g p st n q).2 = (lev S.M r p st n q).2 ∧ ((Go.Proofs.YtfcepnhknmbaaaaGreat.lev S.M r p st n q).2.1 = 0 → (A.lev g p st n q).1 = numb (Go.Proofs.YtfcepnhknmbaaaaGreat.lev S.M r p st n q).1)
  | 0, q, hq => by
    have hpg := hS.pg g r q hg hq
    rw [Abs.lev, Go.Proofs.YtfcepnhknmbaaaaGreat.lev, hpg, pgOf]
    cases hx : pres (S.M.ent r q) with
    | false => exact ⟨rfl, fun q => (by cases q)⟩
    | true =>
      simp only [if_true]
      cases hw : (st && !wrib (S.M.ent r q)) with
      | true => exact ⟨rfl, fun q => (by cases q)⟩
      | false => exact ⟨rfl, fun _ => rfl⟩
  | n + 1, q, hq => by
    have hpg := hS.pg g r q hg hq
    cases hx : pres (S.M.ent r q) with
    | false =>
      rw [Abs.lev, Go.Proofs.YtfcepnhknmbaaaaGreat.lev, hpg, pgOf, hx]
      exact ⟨rfl, fun q => (by cases q)⟩
    | true =>
      have hpg2 : A.pg g q = .some (numb (S.M.ent r q), wrib (S.M.ent r q)) := by rw [hpg, pgOf, hx]; rfl
      have hwd := hS.wd g q _ _ (idx (2 - n) p) hq (idx_lt hp _) hpg2
      rw [Abs.lev, Go.Proofs.YtfcepnhknmbaaaaGreat.lev, hpg2, if_pos hx]
      simp only [hwd]
      cases hy : pres (S.M.W (numb (S.M.ent r q)) (idx (2 - n) p)) with
      | false => exact ⟨rfl, fun q => (by cases q)⟩
      | true =>
        simp only [if_true]
        cases hw : (st && !wrib (S.M.W (numb (S.M.ent r q)) (idx (2 - n) p))) with
        | true => exact ⟨rfl, fun q => (by cases q)⟩
        | false => exact hS.lev hg hp st n _ (by have := numb_lt (S.M.W (numb (S.M.ent r q)) (idx (2 - n) p)); omega)

theorem Sees.turned {S : MS} {A : Abs} {H : Hs} (hS : Sees S A) (hI : Inv S H) {g : Int} {r p : Nat} (hg : S.G g = .some r) (hp : p < 64) (st : Bool) : (A.turned g p st).2 = (S.turned g r p st).2 ∧ ((S.turned g r p st).2.1 = 0 → (A.turned g p st).1 = numb (S.turned g r p st).1) := by
  have h1 := hS.rt g r hg
  have h2 := hI.rt hg
  rw [Abs.turned, MS.turned, h1]
  split
  · exact hS.lev hg hp st 0 p hp
  · exact hS.lev hg hp st 2 _ (by omega)

def Abs.loadAt (A : Abs) (g a : Int) : Int × Int × Int × Int :=
  if A.check g (isAd a) ≠ 0 then (0, 0, 0, A.check g (isAd a)) else
    (if (A.turned g (a.toNat / 8) false).2.1 = 0 then A.wd (A.turned g (a.toNat / 8) false).1 (a.toNat % 8) else 0, (A.turned g (a.toNat / 8) false).2.1, (A.turned g (a.toNat / 8) false).2.2, 0)

theorem absLoad {w : World} {mb : Nat} {own : Nat → Prop} {A : Abs} (h : Rep w mb own A) (g a : Int) (hg64 : In64 g) (hk : A.kn + 3 < maxLen) :
    Calls Tryz.prog 35 #[pt mb, .int .i64 g, .int .i64 a] w fun e w' => ∃ own', e = .returned (.tuple #[.int .i64 (A.loadAt g a).1, .agg #[.int .i64 (A.loadAt g a).2.1, .int .i64 (A.loadAt g a).2.2.1], .int .i64 (A.loadAt g a).2.2.2]) ∧ Rep w' mb own' (A.up 3) ∧ Left w w' own own' := by
  have hrep := h
  obtain ⟨S, H, hM, hI, hS, ho⟩ := h
  by_cases hc : A.check g (isAd a) = 0
  · obtain ⟨hh, ha0, ha1⟩ := check_addr hc
    obtain ⟨r, hg⟩ := hS.some hh
    have e8 : (a / 8).toNat = a.toNat / 8 := by omega
    obtain ⟨t1, t2⟩ := hS.turned hI hg (p := a.toNat / 8) (by omega) false
    have tc := turned_cases hI hg (p := a.toNat / 8) (by omega) false
    refine (loadGood_any w mb S H hM hI g a r hg64 hg ha0 ha1 (by have := hS.kn; omega)).mono ?_
    rintro e w' ⟨rfl, hA⟩
    obtain ⟨own', h1, h2⟩ := Rep.after hS ho hA
    refine ⟨own', ?_, h1, h2⟩
    rw [e8]
    have hl : A.loadAt g a = (loadW S.M (S.turned g r (a.toNat / 8) false) (a.toNat % 8), (S.turned g r (a.toNat / 8) false).2.1, (S.turned g r (a.toNat / 8) false).2.2, 0) := by
      rw [Abs.loadAt, if_neg (by rw [hc]; simp), t1]
      rcases tc with ⟨q, hq, e1, hx, _⟩ | ⟨k, l, e1, hk1, hk2, _, _⟩
      · have e2 := t2 (by rw [e1])
        rw [e1] at e2 ⊢
        have hpg2 : A.pg g q = .some (numb (S.M.ent r q), wrib (S.M.ent r q)) := by rw [hS.pg g r q hg hq, pgOf, hx]; rfl
        rw [e2]
        simp only [loadW, if_true]
        rw [hS.wd g q _ _ (a.toNat % 8) hq (by omega) hpg2]
      · have hk0 : k ≠ 0 := by omega
        rw [e1]
        simp [loadW, hk0]
    rw [hl]
  · have hc' : checkE S g (isAd a) ≠ 0 := by rw [hS.check]; exact hc
    refine (loadBad_any w mb S hM g a hg64 hc').mono ?_
    rintro e w' ⟨rfl, hO⟩
    have hl : A.loadAt g a = (0, 0, 0, A.check g (isAd a)) := by rw [Abs.loadAt, if_pos hc]
    exact ⟨own, by rw [hl, hS.check], (hrep.nob hO).up 3, ⟨hO.of_nob, fun b q => Or.inl q⟩⟩

def Abs.checkV (A : Abs) (g a v : Int) : Int := if A.check g (isAd a) ≠ 0 then A.check g (isAd a) else if v < 0 ∨ 65535 < v then 9 else 0
def Abs.storeAt (A : Abs) (g a v : Int) : Int × Int × Int :=
  if A.checkV g a v ≠ 0 then (0, 0, A.checkV g a v) else ((A.turned g (a.toNat / 8) true).2.1, (A.turned g (a.toNat / 8) true).2.2, 0)
def Abs.stored (A : Abs) (f k : Nat) (v : Int) : Abs := { A with wd := fun f' k' => if f' = f ∧ k' = k then v else A.wd f' k', kn := A.kn + 3 }
/-- Does a Store store? -/
def Abs.stores (A : Abs) (g a v : Int) : Bool := decide (A.checkV g a v = 0 ∧ (A.turned g (a.toNat / 8) true).2.1 = 0)

theorem Sees.checkV {S : MS} {A : Abs} (h : Sees S A) (g a v : Int) : checkW S g a v = A.checkV g a v := by
  simp only [checkW, Abs.checkV, h.check]

theorem absStore {w : World} {mb : Nat} {own : Nat → Prop} {A : Abs} (h : Rep w mb own A) (g a v : Int) (hg64 : In64 g) (hk : A.kn + 3 < maxLen) :
    Calls Tryz.prog 37 #[pt mb, .int .i64 g, .int .i64 a, .int .i64 v] w fun e w' => ∃ own' A', e = .returned (.tuple #[.agg #[.int .i64 (A.storeAt g a v).1, .int .i64 (A.storeAt g a v).2.1], .int .i64 (A.storeAt g a v).2.2]) ∧ Rep w' mb own' A' ∧ Left w w' own own' ∧
      (A.stores g a v = true → A' = A.stored (A.turned g (a.toNat / 8) true).1 (a.toNat % 8) v ∧ ∃ q b, q < 64 ∧ A.pg g q = some ((A.turned g (a.toNat / 8) true).1, b)) ∧ (A.stores g a v = false → A' = A.up 3) := by
  have hrep := h
  obtain ⟨S, H, hM, hI, hS, ho⟩ := h
  by_cases hc : A.checkV g a v = 0
  · have hc1 : A.check g (isAd a) = 0 := by
      by_cases q : A.check g (isAd a) = 0
      · exact q
      · rw [Abs.checkV, if_pos q] at hc
        exact absurd hc q
    have hv : ¬ (v < 0 ∨ 65535 < v) := fun q => by
      rw [Abs.checkV, if_neg (by rw [hc1]; simp), if_pos q] at hc
      omega
    obtain ⟨hh, ha0, ha1⟩ := check_addr hc1
    obtain ⟨r, hg⟩ := hS.some hh
    have e8 : (a / 8).toNat = a.toNat / 8 := by omega
    obtain ⟨t1, t2⟩ := hS.turned hI hg (p := a.toNat / 8) (by omega) true
    have tc := turned_cases hI hg (p := a.toNat / 8) (by omega) true
    have hst : A.storeAt g a v = ((S.turned g r (a.toNat / 8) true).2.1, (S.turned g r (a.toNat / 8) true).2.2, 0) := by
      rw [Abs.storeAt, if_neg (by rw [hc]; simp), t1]
    refine (storeGood_any w mb S H hM hI g a v r hg64 hg ha0 ha1 (by omega) (by omega) (by have := hS.kn; omega)).mono ?_
    rintro e w' ⟨rfl, hA1, hA2⟩
    rw [e8] at hA1 hA2 ⊢
    rcases tc with ⟨q, hq, e1, hx, _⟩ | ⟨k, l, e1, hk1, hk2, _, _⟩
    · have e2 := t2 (by rw [e1])
      have hss : A.stores g a v = true := by simp [Abs.stores, hc, t1, e1]
      rw [e1] at hA2 e2 hst ⊢
      have hA := hA2 rfl
      have hpg2 : A.pg g q = .some (numb (S.M.ent r q), wrib (S.M.ent r q)) := by rw [hS.pg g r q hg hq, pgOf, hx]; rfl
      have hin : ∀ kb kn K, Inv (S.cached kb kn K) H → (∀ g' r' p', S.G g' = .some r' → p' < 64 → (S.M.setW (numb (S.M.ent r q)) (a.toNat % 8) v).ent r' p' = S.M.ent r' p') ∧ Inv ((S.cached kb kn K).withM (S.M.setW (numb (S.M.ent r q)) (a.toNat % 8) v)) H := fun kb kn K hi => by
        have hx' : pres ((S.cached kb kn K).M.ent r ((q : Int)).toNat) = true := by rw [Int.toNat_natCast]; exact hx
        have := hi.wrote (S := S.cached kb kn K) (k := a.toNat % 8) (v := v) (p := (q : Int)) hg (by omega) (by omega) hx' (Goes.refl 0 (S.cached kb kn K) _ _)
        rw [Int.toNat_natCast] at this
        exact this
      have hsee : ∀ kb kn K, kn ≤ S.kn + 3 → Sees ((S.cached kb kn K).withM (S.M.setW (numb (S.M.ent r q)) (a.toNat % 8) v)) (A.stored (numb (S.M.ent r q)) (a.toNat % 8) v) := fun kb kn K hkn => by
        refine ⟨hS.n, hS.free, hS.cnt, hS.last, ?_, hS.has, ?_, hS.non, ?_, hS.rt⟩
        · have := hS.kn
          show kn ≤ A.kn + 3
          omega
        · intro g' r' p' hg' hp'
          show A.pg g' p' = pgOf ((S.M.setW (numb (S.M.ent r q)) (a.toNat % 8) v).ent r' p')
          rw [(hin S.kb S.kn S.K hI).1 g' r' p' hg' hp']
          exact hS.pg g' r' p' hg' hp'
        · intro g' p' f' b' k hp' hk' q'
          have q' : A.pg g' p' = .some (f', b') := q'
          show (if f' = numb (S.M.ent r q) ∧ k = a.toNat % 8 then v else A.wd f' k) = (S.M.setW (numb (S.M.ent r q)) (a.toNat % 8) v).W f' k
          rw [hS.wd g' p' f' b' k hp' hk' q']
          rfl
      obtain ⟨own', h1, h2⟩ := Rep.afterM (H' := H) ho hA (fun kb kn K hi => (hin kb kn K hi).2) hsee
      exact ⟨own', _, by rw [hst], h1, h2, fun _ => ⟨by rw [e2], q, _, hq, by rw [e2]; exact hpg2⟩, fun q => (by rw [hss] at q; cases q)⟩
    · have hk0 : k ≠ 0 := by omega
      have hss : A.stores g a v = false := by simp [Abs.stores, hc, t1, e1, hk0]
      rw [e1] at hA1 hst ⊢
      obtain ⟨own', h1, h2⟩ := Rep.after hS ho (hA1 hk0)
      exact ⟨own', _, by rw [hst], h1, h2, fun q => (by rw [hss] at q; cases q), fun _ => rfl⟩
  · have hc' : checkW S g a v ≠ 0 := by rw [hS.checkV]; exact hc
    have hss : A.stores g a v = false := by simp [Abs.stores, hc]
    refine (storeBad_any w mb S hM g a v hg64 hc').mono ?_
    rintro e w' ⟨rfl, hO⟩
    have hl : A.storeAt g a v = (0, 0, A.checkV g a v) := by rw [Abs.storeAt, if_pos hc]
    exact ⟨own, A.up 3, by rw [hl, hS.checkV], (hrep.nob hO).up 3, ⟨hO.of_nob, fun b q => Or.inl q⟩, fun q => (by rw [hss] at q; cases q), fun _ => rfl⟩
end Go.Proofs.YtfcepnhknmbaaaaGreat
