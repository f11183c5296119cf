/- The contract of Share in a law's words. -/
import Derived.Test.YtfcepnhknmbaaaaGreatAbsC
namespace Go.Proofs.YtfcepnhknmbaaaaGreat
open Go.RowKit Go.Deep

def Abs.need1 (A : Abs) (g : Int) (p : Nat) : Nat := if A.grp g (p / 8) then 0 else 1
def Abs.shareCode (A : Abs) (f p t q : Int) (b : Bool) : Int :=
  if A.has t = false then 4 else if A.check f (isPg p && isPg q) ≠ 0 then A.check f (isPg p && isPg q) else match A.pg f p.toNat with
    | none => 7
    | some (_, wb) => if b && !wb then 8 else if (A.pg t q.toNat).isSome then 6 else if A.free < A.need1 t q.toNat then 3 else 0
def Abs.shared (A : Abs) (t : Int) (q fr : Nat) (b : Bool) : Abs :=
  { A with pg := fun g' p' => if g' = t ∧ p' = q then some (fr, b) else A.pg g' p', free := A.free - A.need1 t q, kn := A.kn + 2 }

theorem check_pages {A : Abs} {g p q : Int} (h : A.check g (isPg p && isPg q) = 0) : A.has g = true ∧ (0 ≤ p ∧ p < 64) ∧ 0 ≤ q ∧ q < 64 := by
  cases h1 : A.has g with
  | false => simp [Abs.check, h1] at h
  | true =>
    cases h2 : (isPg p && isPg q) with
    | false => simp [Abs.check, h1, h2] at h
    | true =>
      simp only [Bool.and_eq_true] at h2
      exact ⟨rfl, by simpa [isPg] using h2.1, by simpa [isPg] using h2.2⟩

theorem absShare {w : World} {mb : Nat} {own : Nat → Prop} {A : Abs} (h : Rep w mb own A) (f p t q : Int) (b : Bool) (hf64 : In64 f) (ht64 : In64 t) (hk : A.kn + 2 < maxLen) :
    Calls Tryz.prog 31 #[pt mb, .int .i64 f, .int .i64 p, .int .i64 t, .int .i64 q, .bool b] w fun e w' => ∃ own' A', e = .returned (.int .i64 (A.shareCode f p t q b)) ∧ Rep w' mb own' A' ∧ Left w w' own own' ∧
      (A.shareCode f p t q b = 0 → ∃ fr wb, A.pg f p.toNat = some (fr, wb) ∧ A' = A.shared t q.toNat fr b) ∧ (A.shareCode f p t q b ≠ 0 → A' = A.up 2) := by
  have hrep := h
  obtain ⟨S, H, hM, hI, hS, ho⟩ := h
  cases ht : A.has t with
  | false =>
    have hcode : A.shareCode f p t q b = 4 := by rw [Abs.shareCode, if_pos ht]
    refine (shareNone_any w mb S hM f p t q b ht64 (hS.none ht)).mono ?_
    rintro e w' ⟨rfl, hO⟩
    exact ⟨own, A.up 2, by rw [hcode], (hrep.nob hO).up 2, ⟨hO.of_nob, fun b q => Or.inl q⟩, fun q => by rw [hcode] at q; omega, fun _ => rfl⟩
  | true =>
    obtain ⟨rt, hT⟩ := hS.some ht
    by_cases hc : A.check f (isPg p && isPg q) = 0
    · obtain ⟨hh, ⟨hp0, hp1⟩, hq0, hq1⟩ := check_pages hc
      obtain ⟨rf, hF⟩ := hS.some hh
      have hpg := hS.pg f rf p.toNat hF (by omega)
      have hpq := hS.pg t rt q.toNat hT (by omega)
      have hnd : A.need1 t q.toNat = need1 S.M rt q.toNat := by
        rw [Abs.need1, Go.Proofs.YtfcepnhknmbaaaaGreat.need1, hS.grp hI hT (k := q.toNat / 8) (by omega)]
        rfl
      have hcode : A.shareCode f p t q b = shareE S.M rf p.toNat rt q.toNat b := by
        rw [Abs.shareCode, if_neg (by rw [ht]; simp), if_neg (by rw [hc]; simp), hpg, shareE, pgOf, hpq, pgOf_isSome, hnd, hS.free]
        cases pres (S.M.ent rf p.toNat) <;> rfl
      refine (shareGood_any w mb S H hM hI f p t q b rf rt hf64 ht64 hF hT hp0 hp1 hq0 hq1 (by have := hS.kn; omega)).mono ?_
      rintro e w' ⟨rfl, hA1, hA2⟩
      rw [hcode]
      by_cases hz : shareE S.M rf p.toNat rt q.toNat b = 0
      · obtain ⟨M', hA, hJ, hfr⟩ := hA2 hz
        have hx : pres (S.M.ent rf p.toNat) = true := by
          cases hx : pres (S.M.ent rf p.toNat) with
          | true => rfl
          | false => rw [shareE, hx] at hz; simp at hz
        have hy : pres (S.M.ent rt q.toNat) = false := by
          cases hy : pres (S.M.ent rt q.toNat) with
          | false => rfl
          | true =>
            rw [shareE, if_pos hx, if_pos hy] at hz
            split at hz <;> omega
        have hle := hI.ok.le
        have hfn := (hI.ok.pageN hF (p := p.toNat) (by omega) hx).1
        have hpg2 : A.pg f p.toNat = .some (numb (S.M.ent rf p.toNat), wrib (S.M.ent rf p.toNat)) := by rw [hpg, pgOf, hx]; rfl
        generalize numb (S.M.ent rf p.toNat) = fr at *
        have hsee : ∀ kb kn K, kn ≤ S.kn + 2 → Sees ((S.cached kb kn K).withM M') (A.shared t q.toNat fr b) := fun kb kn K hkn => by
          refine ⟨by show A.n = M'.n; rw [hJ.n]; exact hS.n, ?_, hS.cnt, hS.last, ?_, hS.has, ?_, ?_, ?_, hS.rt⟩
          · show A.free - A.need1 t q.toNat = M'.free
            rw [hnd, hS.free]
            omega
          · have := hS.kn
            show kn ≤ A.kn + 2
            omega
          · intro g' r' p' hg' hp'
            have hg' : S.G g' = .some r' := hg'
            show (if g' = t ∧ p' = q.toNat then some (fr, b) else A.pg g' p') = pgOf (M'.ent r' p')
            by_cases e : g' = t ∧ p' = q.toNat
            · rw [if_pos e]
              rw [e.1, hT] at hg'
              injection hg' with hg'
              rw [← hg', e.2, hJ.en]
              simp only [pgOf, pres_entryOf, if_true, numb_entryOf fr b (by omega), wrib_entryOf]
            · rw [if_neg e, hS.pg g' r' p' hg' hp']
              have hne : ¬ (r' = rt ∧ p' = q.toNat) := fun q => e ⟨hI.ok.rootI hg' (by rw [q.1]; exact hT), q.2⟩
              have h1 := hJ.oth.pr g' r' p' hg' hp' hne
              cases h2 : pres (S.M.ent r' p') with
              | true => rw [hJ.oth.en g' r' p' hg' hp' hne h2]
              | false =>
                rw [h2] at h1
                simp [pgOf, h1, h2]
          · intro g' p' q'
            show (if g' = t ∧ p' = q.toNat then some (fr, b) else A.pg g' p') = none
            have q' : S.G g' = .none := q'
            rw [if_neg (fun e => by rw [e.1, hT] at q'; cases q')]
            exact hS.non g' p' q'
          · intro g' p' f' b' k hp' hk' q'
            have q' : (if g' = t ∧ p' = q.toNat then some (fr, b) else A.pg g' p') = .some (f', b') := q'
            show A.wd f' k = M'.W f' k
            have key : ∀ g1 p1 b1, p1 < 64 → A.pg g1 p1 = .some (f', b1) → A.wd f' k = M'.W f' k := fun g1 p1 b1 hp1 q1 => by
              obtain ⟨r', hr'⟩ := pg_root hS q1
              obtain ⟨a1, a2, _⟩ := pg_frame hS hr' hp1 q1
              rw [hS.wd g1 p1 f' b1 k hp1 hk' q1]
              have := hJ.oth.wd g1 r' p1 hr' hp1 a1 k
              rw [a2] at this
              exact this.symm
            by_cases e : g' = t ∧ p' = q.toNat
            · rw [if_pos e] at q'
              injection q' with q'
              injection q' with q1 q2
              rw [q1] at hpg2
              exact key f p.toNat _ (by omega) hpg2
            · rw [if_neg e] at q'
              exact key g' p' b' hp' q'
        obtain ⟨own', h1, h2⟩ := Rep.afterM (H' := addH H fr (t, q.toNat)) ho hA (fun kb kn K hi => hi.joined (S := S.cached kb kn K) hy hJ) hsee
        exact ⟨own', _, rfl, h1, h2, fun _ => ⟨fr, _, hpg2, rfl⟩, fun q => absurd hz q⟩
      · obtain ⟨own', h1, h2⟩ := Rep.after hS ho (hA1 hz)
        exact ⟨own', _, rfl, h1, h2, fun q => absurd q hz, fun _ => rfl⟩
    · have hcode : A.shareCode f p t q b = A.check f (isPg p && isPg q) := by rw [Abs.shareCode, if_neg (by rw [ht]; simp), if_pos hc]
      have hc' : checkE S f (isPg p && isPg q) ≠ 0 := by rw [hS.check]; exact hc
      refine (shareCheck_any w mb S hM f p t q b rt hf64 ht64 hT hc').mono ?_
      rintro e w' ⟨rfl, hO⟩
      exact ⟨own, A.up 2, by rw [hcode, hS.check], (hrep.nob hO).up 2, ⟨hO.of_nob, fun b q => Or.inl q⟩, fun q => by rw [hcode] at q; exact absurd q hc, fun _ => rfl⟩
end Go.Proofs.YtfcepnhknmbaaaaGreat
