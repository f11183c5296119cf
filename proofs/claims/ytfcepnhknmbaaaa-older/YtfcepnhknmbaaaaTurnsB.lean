/- That the calls' turns keep the invariant, call by call. -/
import Derived.Test.YtfcepnhknmbaaaaTurns
namespace Go.Proofs.Ytfcepnhknmbaaaa

/-- Map has given a page. -/
theorem Inv.mapped {S : MS} {H : Hs} (h : Inv S H) {B : Nat} {kb : Option Nat} {kn : Nat} {K : Int × Int → Option Int} {g p : Int} {r f : Nat} {b : Bool} {M' : Mm} (ha : pres (S.M.ent r p.toNat) = false)
    (hG : Goes B S kb kn K (g, p) (S.M.ent r p.toNat)) (hC : Came S.M M' S.G H g r p.toNat f b) : Inv ((S.cached kb kn K).withM M') (addH H f (g, p.toNat)) := by
  refine ⟨hC.ok, hC.full, h.gpos, ?_, h.gl, h.c4, h.rt⟩
  intro g' p' x hx
  rcases hG.K (g', p') x hx with q | ⟨_, e2, e3⟩
  · obtain ⟨r', a1, a2, a3, a4, a5⟩ := h.coh q
    refine ⟨r', a1, a2, a3, ?_, a5⟩
    rw [a4] at a5 ⊢
    refine (hC.oth.en g' r' p'.toNat a1 (by omega) (fun e => ?_) a5).symm
    rw [e.1, e.2, ha] at a5
    cases a5
  · rw [e2, ha] at e3
    cases e3

/-- Unmap has taken one. -/
theorem Inv.unmapped {S : MS} {H : Hs} (h : Inv S H) {B : Nat} {kb : Option Nat} {kn : Nat} {K : Int × Int → Option Int} {g p : Int} {r : Nat} {M' : Mm} (hg : S.G g = some r) (hp0 : 0 ≤ p)
    (hG : Goes B S kb kn K (g, p) (S.M.ent r p.toNat)) (hC : Went S.M M' S.G H g r p.toNat) : Inv ((S.cached kb kn K).unmapped (g, p) M') (dropH H (numb (S.M.ent r p.toNat)) (g, p.toNat)) := by
  refine ⟨hC.ok, hC.full, h.gpos, ?_, h.gl, h.c4, h.rt⟩
  intro g' p' x hx
  simp only [MS.unmapped, MS.cached] at hx
  by_cases e : (g', p') = (g, p)
  · rw [if_pos e] at hx
    cases hx
  · rw [if_neg e] at hx
    rcases hG.K (g', p') x hx with q | ⟨e1, _, _⟩
    · obtain ⟨r', a1, a2, a3, a4, a5⟩ := h.coh q
      refine ⟨r', a1, a2, a3, ?_, a5⟩
      rw [a4] at a5 ⊢
      refine (hC.oth.en g' r' p'.toNat a1 (by omega) (fun e2 => ?_) a5).symm
      have e3 := h.ok.rootI a1 (by rw [e2.1]; exact hg)
      exact e (Prod.ext e3 (by show p' = p; omega))
    · exact absurd e1 e

/-- Write has written a word. -/
theorem Inv.wrote {S : MS} {H : Hs} (h : Inv S H) {B : Nat} {kb : Option Nat} {kn : Nat} {K : Int × Int → Option Int} {g p v : Int} {r k : Nat} (hg : S.G g = some r) (hp0 : 0 ≤ p) (hp1 : p < 64)
    (hx : pres (S.M.ent r p.toNat) = true) (hG : Goes B S kb kn K (g, p) (S.M.ent r p.toNat)) :
    (∀ g' r' p', S.G g' = some r' → p' < 64 → (S.M.setW (numb (S.M.ent r p.toNat)) k v).ent r' p' = S.M.ent r' p') ∧ Inv ((S.cached kb kn K).withM (S.M.setW (numb (S.M.ent r p.toNat)) k v)) H := by
  obtain ⟨a, b, c⟩ := h.ok.pageN hg (p := p.toNat) (by omega) hx
  obtain ⟨hE, hO⟩ := h.ok.word (f := numb (S.M.ent r p.toNat)) (k := k) (v := v) b c
  have h2 := h.cached hg hp0 hp1 hG
  refine ⟨hE, ⟨hO, ?_, h.gpos, ?_, h.gl, h.c4, h.rt⟩⟩
  · intro g' r' k' hg'' hk hx'
    have hg' : S.G g' = some r' := hg''
    have e1 : (S.M.setW (numb (S.M.ent r p.toNat)) k v).W r' k' = S.M.W r' k' := by
      simp only [Mm.setW, upd2]
      rw [if_neg (fun q => b ⟨g', by rw [hg', q.1]⟩)]
    simp only [MS.withM] at hx' ⊢
    rw [e1] at hx' ⊢
    obtain ⟨i, hi, hy⟩ := h.full g' r' k' hg' hk hx'
    refine ⟨i, hi, ?_⟩
    simp only [Mm.setW, upd2]
    rw [if_neg (fun q => c ⟨g', r', k', hg', hk, hx', q.1⟩)]
    exact hy
  · intro g' p' x q
    obtain ⟨r', a1, a2, a3, a4, a5⟩ := h2.coh q
    exact ⟨r', a1, a2, a3, by rw [a4]; exact (hE g' r' p'.toNat a1 (by omega)).symm, a5⟩

/-- All guests but one are as they were. -/
structure Apart1 (M M' : Mm) (G : Gs) (g : Int) : Prop where
  pr : ∀ g' r' p', G g' = some r' → g' ≠ g → p' < 64 → pres (M'.ent r' p') = pres (M.ent r' p')
  en : ∀ g' r' p', G g' = some r' → g' ≠ g → p' < 64 → pres (M.ent r' p') = true → M'.ent r' p' = M.ent r' p'
  wd : ∀ g' r' p', G g' = some r' → g' ≠ g → p' < 64 → pres (M.ent r' p') = true → ∀ k, M'.W (numb (M.ent r' p')) k = M.W (numb (M.ent r' p')) k

theorem ended_ok {M : Mm} {G : Gs} {H : Hs} (h : Ok M G H) (hf : Full M G) {g : Int} {r : Nat} (hg : G g = some r) : ∀ k, k ≤ 64 →
    ∃ H', Ok (M.endTo r k) G H' ∧ Full (M.endTo r k) G ∧ (∀ p, p < k → pres ((M.endTo r k).ent r p) = false) ∧ (∀ p, p < 64 → pres (M.ent r p) = false → pres ((M.endTo r k).ent r p) = false) ∧ Apart1 M (M.endTo r k) G g
  | 0, _ => ⟨H, h, hf, fun p hp => by omega, fun _ _ q => q, ⟨fun _ _ _ _ _ _ => rfl, fun _ _ _ _ _ _ _ => rfl, fun _ _ _ _ _ _ _ _ => rfl⟩⟩
  | k + 1, hk => by
    obtain ⟨H', o1, f1, a1, b1, c1⟩ := ended_ok h hf hg k (by omega)
    show ∃ H', Ok ((M.endTo r k).remove r k) G H' ∧ _
    cases hx : pres ((M.endTo r k).ent r k) with
    | false =>
      have e : (M.endTo r k).remove r k = M.endTo r k := by simp [Mm.remove, hx]
      refine ⟨H', by rw [e]; exact o1, ?_, ?_, ?_, ?_⟩
      all_goals simp only [Mm.endTo]
      all_goals rw [e]
      · exact f1
      · intro p hp
        by_cases q : p = k
        · rw [q]; exact hx
        · exact a1 p (by omega)
      · exact b1
      · exact c1
    | true =>
      have w := went o1 f1 hg (p := k) (by omega) hx
      have hne : ∀ {g' r' p'}, G g' = some r' → g' ≠ g → ¬ (r' = r ∧ p' = k) := fun {g' r' p'} q q2 e => q2 (h.rootI q (by rw [e.1]; exact hg))
      refine ⟨_, w.ok, w.full, ?_, ?_, ⟨?_, ?_, ?_⟩⟩
      all_goals simp only [Mm.endTo]
      · intro p hp
        by_cases q : p = k
        · rw [q]; exact w.abs
        · rw [w.oth.pr g r p hg (by omega) (fun e => q e.2)]
          exact a1 p (by omega)
      · intro p hp hq
        by_cases q : p = k
        · rw [q]; exact w.abs
        · rw [w.oth.pr g r p hg hp (fun e => q e.2)]
          exact b1 p hp hq
      · intro g' r' p' q q2 hp'
        rw [w.oth.pr g' r' p' q hp' (hne q q2)]
        exact c1.pr g' r' p' q q2 hp'
      · intro g' r' p' q q2 hp' hy
        have hz := c1.en g' r' p' q q2 hp' hy
        rw [w.oth.en g' r' p' q hp' (hne q q2) (by rw [hz]; exact hy)]
        exact hz
      · intro g' r' p' q q2 hp' hy j
        have hz := c1.en g' r' p' q q2 hp' hy
        have := w.oth.wd g' r' p' q hp' (by rw [hz]; exact hy) j
        rw [hz] at this
        rw [this]
        exact c1.wd g' r' p' q q2 hp' hy j

theorem ended_fin {M : Mm} {G : Gs} {H : Hs} (h : Ok M G H) (hf : Full M G) {g : Int} {r : Nat} (hg : G g = some r) :
    ∃ H', Ok (M.ended r) G H' ∧ Full (M.ended r) G ∧ (∀ p, p < 64 → pres ((M.ended r).ent r p) = false) ∧ Apart1 M (M.ended r) G g := by
  have key : ∀ k, k = 64 → ∃ H', Ok (M.endTo r k) G H' ∧ Full (M.endTo r k) G ∧ (∀ p, p < 64 → pres ((M.endTo r k).ent r p) = false) ∧ Apart1 M (M.endTo r k) G g := fun k hk => by
    obtain ⟨H', o1, f1, a1, _, c1⟩ := ended_ok h hf hg k (by omega)
    exact ⟨H', o1, f1, fun p hp => a1 p (by omega), c1⟩
  exact key 64 rfl

theorem endTo_sound {M : Mm} {G : Gs} {H : Hs} (h : Ok M G H) (hf : Full M G) {g : Int} {r : Nat} (hg : G g = some r) : (∀ k, k < 64 → Sound (M.endTo r k) r k) ∧ 1 ≤ (M.ended r).U r := by
  constructor
  · intro k hk
    obtain ⟨H', o1, _⟩ := ended_ok h hf hg k (by omega)
    exact o1.sound hg hk
  · obtain ⟨H', o1, _⟩ := ended_fin h hf hg
    have : (M.ended r).U r = 1 := (o1.rootN hg).2
    omega

/-- Destroy has ended a guest. -/
def MS.ends (S : MS) (g : Int) (E : Mm) : MS :=
  { S with M := E, G := fun j => if j = g then none else S.G j, cnt := S.cnt - 1, K := fun i => if i.1 = g ∧ 0 ≤ i.2 ∧ i.2 < 64 then none else S.K i }

theorem Inv.endsE {S : MS} {H H' : Hs} (h : Inv S H) {g : Int} {r : Nat} (hg : S.G g = some r) {E : Mm} (o1 : Ok E S.G H') (f1 : Full E S.G) (a1 : ∀ p, p < 64 → pres (E.ent r p) = false) (c1 : Apart1 S.M E S.G g) :
    Inv (S.ends g (E.unuse r)) H' ∧ Apart1 S.M (E.unuse r) S.G g := by
  have hn : ∀ k, k < 8 → pres (E.W r k) = false := fun k hk => by
    cases e : pres (E.W r k) with
    | false => rfl
    | true =>
      obtain ⟨p, _, hp, hx⟩ := (group_iff f1 hg hk).1 e
      rw [a1 p hp] at hx
      cases hx
  obtain ⟨hE, hO⟩ := o1.dropRoot hg hn
  have hA : Apart1 S.M (E.unuse r) S.G g := by
    refine ⟨fun g' r' p' q q2 hp' => ?_, fun g' r' p' q q2 hp' hy => ?_, fun g' r' p' q q2 hp' hy k => ?_⟩
    · show pres ((E.unuse r).ent r' p') = _
      rw [hE]
      exact c1.pr g' r' p' q q2 hp'
    · show (E.unuse r).ent r' p' = _
      rw [hE]
      exact c1.en g' r' p' q q2 hp' hy
    · exact c1.wd g' r' p' q q2 hp' hy k
  refine ⟨⟨hO, ?_, ?_, ?_, ?_, ?_, ?_⟩, hA⟩
  · intro g' r' k q hk hx
    simp only [MS.ends] at q
    by_cases e : g' = g
    · rw [if_pos e] at q
      cases q
    · rw [if_neg e] at q
      exact f1 g' r' k q hk hx
  · intro g' r' q
    simp only [MS.ends] at q
    by_cases e : g' = g
    · rw [if_pos e] at q
      cases q
    · rw [if_neg e] at q
      exact h.gpos q
  · intro g' p' x q
    simp only [MS.ends] at q
    by_cases e : g' = g ∧ 0 ≤ p' ∧ p' < 64
    · rw [if_pos e] at q
      cases q
    · rw [if_neg e] at q
      obtain ⟨r', b1, b2, b3, b4, b5⟩ := h.coh q
      have hne : g' ≠ g := fun e2 => e ⟨e2, b2, b3⟩
      refine ⟨r', ?_, b2, b3, ?_, b5⟩
      · simp only [MS.ends]
        rw [if_neg hne]
        exact b1
      · rw [b4] at b5 ⊢
        exact (hA.en g' r' p'.toNat b1 hne (by omega) b5).symm
  · obtain ⟨L, l1, l2, l3⟩ := h.gl
    have hmem : g ∈ L := (l2 g).2 (by rw [hg]; rfl)
    refine ⟨L.erase g, l1.erase g, fun g' => ?_, by simp only [MS.ends, List.length_erase_of_mem hmem, l3]⟩
    rw [l1.mem_erase_iff, l2 g']
    simp only [MS.ends]
    by_cases e : g' = g
    · rw [if_pos e]
      simp [e]
    · rw [if_neg e]
      simp [e]
  · have := h.c4
    simp only [MS.ends]
    omega
  · intro g' r' q
    simp only [MS.ends] at q ⊢
    by_cases e : g' = g
    · rw [if_pos e] at q
      cases q
    · rw [if_neg e] at q
      exact h.rt q

theorem Inv.destroyed {S : MS} {H : Hs} (h : Inv S H) {g : Int} {r : Nat} (hg : S.G g = some r) : ∃ H', Inv (S.destroyed g r) H' ∧ Apart1 S.M ((S.M.ended r).unuse r) S.G g := by
  obtain ⟨H', o1, f1, a1, c1⟩ := ended_fin h.ok h.full hg
  exact ⟨H', h.endsE hg o1 f1 a1 c1⟩

/-- Where no guest is, all frames are free. -/
theorem freeTo_all {U : Nat → Int} : ∀ {k : Nat}, (∀ j, j < k → U j = 0) → freeTo U k = k
  | 0, _ => rfl
  | k + 1, h => by simp only [freeTo, freeTo_all (k := k) (fun j hj => h j (by omega)), h k (by omega), if_true]

theorem free_none {M : Mm} {G : Gs} {H : Hs} (h : Ok M G H) (hG : ∀ g, G g = none) : M.free = M.n := by
  refine freeTo_all (fun j hj => ?_)
  have hr : ¬ IsRoot G j := fun ⟨g, q⟩ => by rw [hG] at q; cases q
  have ht : ¬ IsTab M G j := fun ⟨g, _, _, q, _⟩ => by rw [hG] at q; cases q
  rw [h.hU j hj hr ht]
  have : H j = [] := by
    apply List.eq_nil_iff_forall_not_mem.2
    rintro ⟨g, p⟩ hm
    obtain ⟨_, _, q, _⟩ := (h.hIn j g p).1 hm
    rw [hG] at q
    cases q
  rw [this]
  rfl

/-- Where one guest is, without pages, all frames but one are. -/
theorem free_one {M : Mm} {G : Gs} {H : Hs} (h : Ok M G H) (hf : Full M G) {g : Int} {r : Nat} (hg : G g = some r) (hG : ∀ g', g' ≠ g → G g' = none) (hp : ∀ p, p < 64 → pres (M.ent r p) = false) : M.free + 1 = M.n := by
  have h2 : ∀ j, j < M.n → upd M.U r 0 j = 0 := fun j hj => by
    simp only [upd]
    split
    · rfl
    · rename_i e
      have hro : ∀ {g' r'}, G g' = some r' → r' = r := fun {g' r'} q => by
        by_cases e2 : g' = g
        · rw [e2, hg] at q
          injection q with q
          exact q.symm
        · rw [hG g' e2] at q
          cases q
      have hr : ¬ IsRoot G j := fun ⟨g', q⟩ => e (hro q)
      have ht : ¬ IsTab M G j := by
        rintro ⟨g', r', k, q, hk, hx, _⟩
        obtain ⟨p, _, hp', hx'⟩ := (group_iff hf q hk).1 hx
        rw [hro q, hp p hp'] at hx'
        cases hx'
      rw [h.hU j hj hr ht]
      have : H j = [] := by
        apply List.eq_nil_iff_forall_not_mem.2
        rintro ⟨g', p⟩ hm
        obtain ⟨hp', r', q, hx', _⟩ := (h.hIn j g' p).1 hm
        rw [hro q, hp p hp'] at hx'
        cases hx'
      rw [this]
      rfl
  have h1 := freeTo_all h2
  have h3 := freeTo_upd (U := M.U) (v := 0) (h.rootN hg).1
  rw [if_neg (by have := (h.rootN hg).2; omega), if_pos rfl, h1] at h3
  exact h3.symm
end Go.Proofs.Ytfcepnhknmbaaaa
