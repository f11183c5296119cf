/- A machine as a law sees it ('Abs'): guests, their pages, words, free frames; and each call's contract in these words. -/
import Derived.Test.YtfcepnhknmbaaaaGreatTurnsM
import Derived.Test.YtfcepnhknmbaaaaGreatTopM
namespace Go.Proofs.YtfcepnhknmbaaaaGreat
open Go.RowKit Go.Deep

structure Abs where
  n : Nat
  free : Nat
  cnt : Nat
  last : Nat
  kn : Nat
  has : Int → Bool
  pg : Int → Nat → Option (Nat × Bool)
  wd : Nat → Nat → Int
  rt : Int → Int

/-- The page that an entry tells. -/
def pgOf (x : Int) : Option (Nat × Bool) := if pres x then some (numb x, wrib x) else none

structure Sees (S : MS) (A : Abs) : Prop where
  n : A.n = S.M.n
  free : A.free = S.M.free
  cnt : A.cnt = S.cnt
  last : A.last = S.last
  kn : S.kn ≤ A.kn
  has : ∀ g, A.has g = (S.G g).isSome
  pg : ∀ g r p, S.G g = some r → p < 64 → A.pg g p = pgOf (S.M.ent r p)
  non : ∀ g p, S.G g = none → A.pg g p = none
  wd : ∀ g p f b k, p < 64 → k < 8 → A.pg g p = some (f, b) → A.wd f k = S.M.W f k
  rt : ∀ g r, S.G g = some r → A.rt g = S.Rt g

def Rep (w : World) (mb : Nat) (own : Nat → Prop) (A : Abs) : Prop := ∃ S H, Mach w mb S ∧ Inv S H ∧ Sees S A ∧ ∀ b, own b ↔ S.own mb b

/-- What a call leaves: its own blocks alone have turned; new ones may be its own. -/
structure Left (w w' : World) (own own' : Nat → Prop) : Prop where
  only : Only own w w'
  ext : ∀ b, own' b → own b ∨ w.heap.size ≤ b

theorem Rep.own_lt {w : World} {mb : Nat} {own : Nat → Prop} {A : Abs} (h : Rep w mb own A) {b : Nat} (hb : own b) : b < w.heap.size := by
  obtain ⟨S, H, hM, _, _, ho⟩ := h
  exact hM.own_lt ((ho b).1 hb)

theorem Rep.only {w w' : World} {mb : Nat} {own T : Nat → Prop} {A : Abs} (h : Rep w mb own A) (o : Only T w w') (hT : ∀ b, own b → ¬ T b) : Rep w' mb own A := by
  obtain ⟨S, H, hM, hI, hS, ho⟩ := h
  exact ⟨S, H, hM.only o (fun b hb => hT b ((ho b).2 hb)), hI, hS, ho⟩

theorem Rep.nob {w w' : World} {mb : Nat} {own : Nat → Prop} {A : Abs} (h : Rep w mb own A) (o : Only Nob w w') : Rep w' mb own A := h.only o (fun _ _ h => h)

def Abs.tick (A : Abs) : Abs := { A with kn := A.kn + 1 }

theorem Sees.some {S : MS} {A : Abs} (h : Sees S A) {g : Int} (hg : A.has g = true) : ∃ r, S.G g = some r := by
  rw [h.has] at hg
  exact Option.isSome_iff_exists.1 hg
theorem Sees.none {S : MS} {A : Abs} (h : Sees S A) {g : Int} (hg : A.has g = false) : S.G g = none := by
  rw [h.has] at hg
  simpa using hg

/-- The code that comes first in most calls. -/
def Abs.check (A : Abs) (g : Int) (b : Bool) : Int := if A.has g then (if b then 0 else 5) else 4
theorem Sees.check {S : MS} {A : Abs} (h : Sees S A) (g : Int) (b : Bool) : checkE S g b = A.check g b := by
  simp only [checkE, Abs.check, h.has]

theorem own_cached {S : MS} {mb B : Nat} {kb : Option Nat} {kn : Nat} {K : Int × Int → Option Int} {i : Int × Int} {x : Int} (hG : Goes B S kb kn K i x) (b : Nat) (hb : (S.cached kb kn K).own mb b) : S.own mb b ∨ B ≤ b := by
  rcases hb with q | q | q | q | q
  · exact Or.inl (Or.inl q)
  · exact Or.inl (Or.inr (Or.inl q))
  · exact Or.inl (Or.inr (Or.inr (Or.inl q)))
  · exact Or.inl (Or.inr (Or.inr (Or.inr (Or.inl q))))
  · exact (hG.kb b q).imp (fun q => Or.inr (Or.inr (Or.inr (Or.inr q)))) id

theorem own_only {S : MS} {mb : Nat} {own : Nat → Prop} {w w' : World} (ho : ∀ b, own b ↔ S.own mb b) (h : Only (S.own mb) w w') : Only own w w' := h.mono (fun k _ q => (ho k).2 q)

/-- The cache alone has turned. -/
theorem Rep.cached {w w' : World} {mb : Nat} {own : Nat → Prop} {A : Abs} {S : MS} {H : Hs} {kb : Option Nat} {kn : Nat} {K : Int × Int → Option Int} {g p : Int} {r : Nat} (hI : Inv S H) (hS : Sees S A) (ho : ∀ b, own b ↔ S.own mb b)
    (hg : S.G g = .some r) (hp0 : 0 ≤ p) (hp1 : p < 64) (hM : Mach w' mb (S.cached kb kn K)) (hG : Goes w.heap.size S kb kn K (g, p) (S.M.ent r p.toNat)) (hO : Only (S.own mb) w w') :
    ∃ own', Rep w' mb own' A.tick ∧ Left w w' own own' := by
  refine ⟨(S.cached kb kn K).own mb, ⟨S.cached kb kn K, H, hM, hI.cached hg hp0 hp1 hG, ⟨hS.n, hS.free, hS.cnt, hS.last, ?_, hS.has, hS.pg, hS.non, hS.wd, hS.rt⟩, fun _ => Iff.rfl⟩, ⟨own_only ho hO, fun b hb => ?_⟩⟩
  · have h1 := hG.kn
    have h2 := hS.kn
    show kn ≤ A.kn + 1
    omega
  · exact (own_cached hG b hb).imp (fun q => (ho b).2 q) id

/-! Free. -/
theorem absFree {w : World} {mb : Nat} {own : Nat → Prop} {A : Abs} (h : Rep w mb own A) : Calls Tryz.prog 17 #[pt mb] w fun e w' => e = .returned (.int .i64 A.free) ∧ w = w' := by
  obtain ⟨S, H, hM, _, hS, _⟩ := h
  rw [hS.free]
  exact free_any w mb S hM

/-! New. -/
def Abs.fresh (n : Nat) : Abs := ⟨n, n, 0, 0, 0, fun _ => false, fun _ _ => none, fun _ _ => 0, fun _ => -1⟩

theorem absNew (w : World) (n : Int) (h4 : 4 ≤ n) (h64 : n ≤ 64) : Calls Tryz.prog 15 #[.int .i64 n] w fun e w' => ∃ mb own, e = .returned (.tuple #[pt mb, .int .i64 0]) ∧ Rep w' mb own (Abs.fresh n.toNat) ∧ Only Nob w w' ∧ ∀ b, own b → w.heap.size ≤ b := by
  refine (newGood_any w n h4 h64).mono ?_
  rintro e w' ⟨mb, mp, fb, gb, rfl, l1, l2, l3, l4, hM, hO⟩
  refine ⟨mb, (MS.fresh n.toNat mp fb gb).own mb, rfl, ⟨_, _, hM, Inv.fresh n.toNat mp fb gb (by omega), ⟨rfl, (fresh_free n.toNat mp fb gb).symm, rfl, rfl, Nat.le_refl _, fun _ => rfl, fun _ _ _ q => (by cases q), fun _ _ _ => rfl, fun _ _ _ _ _ _ _ q => (by cases q), fun _ _ _ => rfl⟩, fun _ => Iff.rfl⟩, hO, ?_⟩
  rintro b (rfl | rfl | rfl | rfl | q)
  · exact l1
  · exact l2
  · exact l3
  · exact l4
  · cases q

/-! Create. -/
def Abs.createCode (A : Abs) : Int := if 4 ≤ A.cnt then 2 else if A.free = 0 then 3 else 0
def Abs.created (A : Abs) : Abs := { A with has := fun g => if g = (A.last : Int) + 1 then true else A.has g, cnt := A.cnt + 1, last := A.last + 1, free := A.free - 1, rt := fun g => if g = (A.last : Int) + 1 then -1 else A.rt g }

theorem pg_frame {S : MS} {A : Abs} (h : Sees S A) {g : Int} {r p f : Nat} {b : Bool} (hg : S.G g = .some r) (hp : p < 64) (hpg : A.pg g p = .some (f, b)) : pres (S.M.ent r p) = true ∧ numb (S.M.ent r p) = f ∧ wrib (S.M.ent r p) = b := by
  rw [h.pg g r p hg hp] at hpg
  simp only [pgOf] at hpg
  split at hpg
  · rename_i q
    injection hpg with hpg
    injection hpg with h1 h2
    exact ⟨q, h1, h2⟩
  · cases hpg

theorem pg_root {S : MS} {A : Abs} (h : Sees S A) {g : Int} {p f : Nat} {b : Bool} (hpg : A.pg g p = .some (f, b)) : ∃ r, S.G g = .some r := by
  cases q : S.G g with
  | none => rw [h.non g p q] at hpg; cases hpg
  | some r => exact ⟨r, rfl⟩

theorem sees_created {S : MS} {A : Abs} {H : Hs} (hI : Inv S H) (hS : Sees S A) {i : Nat} (hi : S.M.first = .some i) (hc : S.cnt < 4) : S.G (S.last + 1) = .none ∧ Inv (S.created i) H ∧ Sees (S.created i) A.created := by
  obtain ⟨hg, hI', hfr, hE, hE0, hW⟩ := hI.created hi hc
  have hG' : ∀ g, (S.created i).G g = if g = (S.last : Int) + 1 then .some i else S.G g := fun _ => rfl
  refine ⟨hg, hI', ?_⟩
  refine ⟨hS.n, ?_, ?_, ?_, hS.kn, ?_, ?_, ?_, ?_, ?_⟩
  · show A.free - 1 = _
    rw [hS.free]
    omega
  · show A.cnt + 1 = S.cnt + 1
    rw [hS.cnt]
  · show A.last + 1 = S.last + 1
    rw [hS.last]
  · intro g
    rw [hG' g]
    show (if g = (A.last : Int) + 1 then true else A.has g) = _
    rw [hS.last]
    split
    · rfl
    · exact hS.has g
  · intro g r p q hp
    rw [hG' g] at q
    show A.pg g p = _
    split at q
    · rename_i e
      injection q with q
      rw [← q, hE0, hS.non g p (by rw [e]; exact hg)]
      rfl
    · rw [hE g r p q hp]
      exact hS.pg g r p q hp
  · intro g p q
    rw [hG' g] at q
    split at q
    · cases q
    · exact hS.non g p q
  · intro g p f b k hp hk q
    have q : A.pg g p = .some (f, b) := q
    obtain ⟨r, hr⟩ := pg_root hS q
    obtain ⟨a1, a2, _⟩ := pg_frame hS hr hp q
    have := hW g r p hr hp a1 k
    rw [a2] at this
    rw [this]
    exact hS.wd g p f b k hp hk q
  · intro g r q
    rw [hG' g] at q
    show (if g = (A.last : Int) + 1 then -1 else A.rt g) = if g = (S.last : Int) + 1 then -1 else S.Rt g
    rw [hS.last]
    split at q
    · rename_i e
      rw [if_pos e, if_pos e]
    · rename_i e
      rw [if_neg e, if_neg e]
      exact hS.rt g r q
end Go.Proofs.YtfcepnhknmbaaaaGreat
