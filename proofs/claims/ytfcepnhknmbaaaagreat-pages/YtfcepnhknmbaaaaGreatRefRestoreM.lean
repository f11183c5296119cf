/- A guest of the document's as a picture; the frames it takes; the two machines agree behind a Restore. -/
import Derived.Test.YtfcepnhknmbaaaaGreatRefAgree
import Derived.Test.YtfcepnhknmbaaaaGreatSees
import Derived.Test.YtfcepnhknmbaaaaGreatRefLie
import Derived.Test.YtfcepnhknmbaaaaGreatRefThirdM
namespace Go.Proofs.YtfcepnhknmbaaaaGreat
open Go.RowKit Go.Deep

/-! The frames. -/
theorem frTo_at {G : RG} {Wd : Nat → Nat → Int} {P : Pic} (h : GPic G Wd P) (m : Nat) (hm : m < 8) : ∀ j, j ≤ 8 → P.frTo (8 * m) = 1 + rtabs G m + cntF P.pr (8 * m) → P.frTo (8 * m + j) = 1 + rtabs G m + cntF P.pr (8 * m + j) + if anyTo G m j then 1 else 0
  | 0, _, h0 => by simpa [anyTo] using h0
  | j + 1, hj, h0 => by
    have ih := frTo_at h m hm j (by omega) h0
    have hp := h.pr (8 * m + j) (by omega)
    have ha : anyTo G m (j + 1) = (anyTo G m j || (G.P (8 * m + j)).isSome) := rfl
    show P.frTo ((8 * m + j) + 1) = 1 + rtabs G m + cntF P.pr ((8 * m + j) + 1) + _
    rw [Pic.frTo, cntF, ha, ← hp]
    cases hq : P.pr (8 * m + j) with
    | false => simp only [Bool.false_eq_true, if_false, Bool.or_false]; omega
    | true =>
      simp only [if_true, Bool.or_true]
      have hi := P.grpTo_iff (8 * m + j)
      cases hz : anyTo G m j with
      | true =>
        obtain ⟨i, hi1, hi2⟩ := anyTo_iff.1 hz
        have : (((8 * m + j) / 8 : Nat) : Int) = P.grpTo (8 * m + j) := hi.2 ⟨8 * m + i, by omega, by omega, by rw [h.pr _ (by omega)]; exact hi2⟩
        rw [if_pos this, ih, hz]
        simp only [if_true]
        omega
      | false =>
        have : ¬ (((8 * m + j) / 8 : Nat) : Int) = P.grpTo (8 * m + j) := fun e => by
          obtain ⟨i, h1, h2, h3⟩ := hi.1 e
          have e1 : i = 8 * m + (i - 8 * m) := by omega
          have : anyTo G m j = true := anyTo_iff.2 ⟨i - 8 * m, by omega, by rw [← e1, ← h.pr _ (by omega)]; exact h3⟩
          rw [hz] at this
          cases this
        rw [if_neg this, ih, hz]
        simp only [Bool.false_eq_true, if_false]
        omega
theorem frTo_eight {G : RG} {Wd : Nat → Nat → Int} {P : Pic} (h : GPic G Wd P) : ∀ m, m ≤ 8 → P.frTo (8 * m) = 1 + rtabs G m + cntF P.pr (8 * m)
  | 0, _ => rfl
  | m + 1, hm => by
    have := frTo_at h m (by omega) 8 (Nat.le_refl _) (frTo_eight h m (by omega))
    rw [show 8 * (m + 1) = 8 * m + 8 by omega, this, rtabs]
    show _ = 1 + (rtabs G m + if anyTo G m 8 then 1 else 0) + _
    omega
theorem GPic.frames {G : RG} {Wd : Nat → Nat → Int} {P : Pic} (h : GPic G Wd P) : P.frames = G.tabs + cntF P.pr 64 := frTo_eight h 8 (Nat.le_refl _)

/-! A picture taken in: what else. -/
theorem Adm.more {P : Pic} {A : Abs} {g : Int} (h0 : ∀ p, p < 64 → A.pg g p = none) : ∀ {k : Nat} {B : Abs}, k ≤ 64 → Adm P A g k B → B.cnt = A.cnt ∧ B.last = A.last ∧ ∀ p q f b b', p < 64 → q < 64 → B.pg g p = some (f, b) → B.pg g q = some (f, b') → p = q
  | 0, B, _, h => by
    have h : B = A := h
    subst h
    exact ⟨rfl, rfl, fun p q f b b' hp _ e => by rw [h0 p hp] at e; cases e⟩
  | k + 1, B, hk, h => by
    obtain ⟨C, hC, h1, h2⟩ := h
    obtain ⟨i1, i2, i3⟩ := Adm.more h0 (by omega) hC
    cases hp : P.pr k with
    | false => rw [h2 hp]; exact ⟨i1, i2, i3⟩
    | true =>
      obtain ⟨f, hn, e⟩ := h1 hp
      subst e
      have hpg : ∀ g' p', (C.filled g k f (P.wr k) (P.wd k)).pg g' p' = if g' = g ∧ p' = k then some (f, P.wr k) else C.pg g' p' := fun _ _ => rfl
      refine ⟨i1, i2, fun p q f' b b' hp64 hq e1 e2 => ?_⟩
      rw [hpg] at e1 e2
      by_cases ep : p = k
      · by_cases eq : q = k
        · rw [ep, eq]
        · rw [if_pos ⟨rfl, ep⟩] at e1
          rw [if_neg (fun x => eq x.2)] at e2
          have e := congrArg Prod.fst (Option.some.inj e1)
          have e : f = f' := e
          exact (hn.2 g q b' hq (by rw [e]; exact e2)).elim
      · by_cases eq : q = k
        · rw [if_neg (fun x => ep x.2)] at e1
          rw [if_pos ⟨rfl, eq⟩] at e2
          have e := congrArg Prod.fst (Option.some.inj e2)
          have e : f = f' := e
          exact (hn.2 g p b hp64 (by rw [e]; exact e1)).elim
        · rw [if_neg (fun x => ep x.2)] at e1
          rw [if_neg (fun x => eq x.2)] at e2
          exact i3 p q f' b b' hp64 hq e1 e2

theorem cntF_at {f : Nat → Bool} {p q : Nat} (h : p < q) : cntF f (p + 1) < cntF f (q + 1) ∨ f q = false := by
  cases hq : f q with
  | false => exact Or.inr rfl
  | true =>
    have := cntF_mono (f := f) (show p + 1 ≤ q by omega)
    have e : cntF f (q + 1) = cntF f q + 1 := by rw [cntF, hq]; rfl
    exact Or.inl (by omega)
theorem cntF_inj {f : Nat → Bool} {p q : Nat} (hp : f p = true) (hq : f q = true) (e : cntF f (p + 1) = cntF f (q + 1)) : p = q := by
  rcases Nat.lt_trichotomy p q with h | h | h
  · rcases cntF_at (f := f) h with x | x
    · omega
    · rw [hq] at x; cases x
  · exact h
  · rcases cntF_at (f := f) h with x | x
    · omega
    · rw [hp] at x; cases x
theorem cntF_pos {f : Nat → Bool} {p : Nat} (hp : f p = true) : 1 ≤ cntF f (p + 1) := by rw [cntF, hp]; simp

/-- The frame of the page that is the i-th. -/
def rankF (P : Pic) (fr : Nat → Nat) (made : Nat) (psi : Int → Nat) (i : Int) : Nat :=
  if i ≤ made then psi i else match (List.range 64).find? (fun p => P.pr p && decide (((made + cntF P.pr (p + 1) : Nat) : Int) = i)) with | some p => fr p | none => 0
theorem rankF_old {P : Pic} {fr : Nat → Nat} {made : Nat} {psi : Int → Nat} {i : Int} (h : i ≤ made) : rankF P fr made psi i = psi i := if_pos h
theorem rankF_new {P : Pic} {fr : Nat → Nat} {made : Nat} {psi : Int → Nat} {p : Nat} (hp : p < 64) (hq : P.pr p = true) : rankF P fr made psi ((made + cntF P.pr (p + 1) : Nat) : Int) = fr p := by
  have h1 := cntF_pos hq
  rw [rankF, if_neg (by omega)]
  have hs : ((List.range 64).find? (fun q => P.pr q && decide (((made + cntF P.pr (q + 1) : Nat) : Int) = ((made + cntF P.pr (p + 1) : Nat) : Int)))) = some p := by
    cases e : (List.range 64).find? (fun q => P.pr q && decide (((made + cntF P.pr (q + 1) : Nat) : Int) = ((made + cntF P.pr (p + 1) : Nat) : Int))) with
    | none =>
      have := List.find?_eq_none.1 e p (List.mem_range.2 hp)
      simp [hq] at this
    | some q =>
      have hf := List.find?_some e
      simp only [Bool.and_eq_true, decide_eq_true_eq] at hf
      rw [cntF_inj hf.1 hq (by have := hf.2; omega)]
  rw [hs]

/-- What is behind the document's Restore. -/
structure Restored (R R' : RS) (G : RG) (P : Pic) (Wd : Nat → Nat → Int) : Prop where
  n : R'.n = R.n
  last : R'.last = R.last + 1
  made : R'.made = R.made + cntF P.pr 64
  L : R'.L = R.L ++ [G]
  N : G.N = (R.last : Int) + 1
  gp : GPic G Wd P
  oId : ∀ b, R.isPg b → R'.Id b = R.Id b ∧ ∀ k, k < 8 → R'.Wd b k = R.Wd b k
  nId : ∀ p b, p < 64 → G.P p = some b → R'.Id b = ((R.made + cntF P.pr (p + 1) : Nat) : Int) ∧ ∀ k, k < 8 → R'.Wd b k = Wd b k
  new : ∀ p b, p < 64 → G.P p = some b → ¬ R.isPg b
  inj : ∀ p q b, p < 64 → q < 64 → G.P p = some b → G.P q = some b → p = q

theorem Restored.isPg {R R' : RS} {G : RG} {P : Pic} {Wd : Nat → Nat → Int} (h : Restored R R' G P Wd) {b : Nat} (hb : R'.isPg b) : R.isPg b ∨ ∃ p, p < 64 ∧ G.P p = some b := by
  obtain ⟨g, hg, p, hp, e⟩ := hb
  rw [h.L] at hg
  rcases List.mem_append.1 hg with q | q
  · exact Or.inl ⟨g, q, p, hp, e⟩
  · rw [List.mem_singleton] at q
    subst q
    exact Or.inr ⟨p, hp, e⟩

theorem Agree.restored {A A' : Abs} {R R' : RS} {psi : Int → Nat} {P Q : Pic} {G : RG} {Wd : Nat → Nat → Int} (h : Agree A R psi) (hnon : ∀ g p, A.has g = false → A.pg g p = none) (hr : Restored R R' G P Wd) (hQ : Q.Same P) (hg0 : -1 ≤ P.root) (hg1 : P.root < 64) (ha : A.Admits Q A') (hc : A.admitCode Q = 0) : ∃ psi', Agree A' R' psi' := by
  have hnew : A.has ((A.last : Int) + 1) = false := by
    cases q : A.has ((A.last : Int) + 1) with
    | false => rfl
    | true =>
      obtain ⟨G, hG, e⟩ := (h.has _).1 q
      have := (h.pos G hG).2
      have := h.last
      omega
  have h0 : ∀ p, p < 64 → A.created.pg ((A.last : Int) + 1) p = none := fun p _ => hnon _ _ hnew
  obtain ⟨B, hB, rfl⟩ := ha.1 hc
  have t := Adm.taken h0 (Nat.le_refl 64) hB
  obtain ⟨m1, m2, m3⟩ := Adm.more h0 (Nat.le_refl 64) hB
  have hl := h.last
  have hN : G.N = (A.last : Int) + 1 := by rw [hr.N, hl]
  have hold : ∀ X ∈ R.L, X.N ≠ (A.last : Int) + 1 := fun X hX e => by
    have := (h.pos X hX).2
    omega
  have hpg : ∀ g p, (B.rooted ((A.last : Int) + 1) Q.root).pg g p = B.pg g p := fun _ _ => rfl
  have hex : ∀ p, ∃ f, p < 64 → P.pr p = true → B.pg ((A.last : Int) + 1) p = some (f, P.wr p) ∧ ∀ k, k < 8 → B.wd f k = P.wd p k := fun p => by
    by_cases hp : p < 64
    · rcases t.mine p hp with ⟨q1, q2⟩ | ⟨q1, q2, f, q3, q4⟩
      · refine ⟨0, fun _ e => ?_⟩
        rw [← hQ.pr p hp] at e
        rcases q2 with x | x
        · omega
        · rw [e] at x; cases x
      · exact ⟨f, fun _ _ => ⟨by rw [← hQ.wr p hp]; exact q3, fun k hk => by rw [← hQ.wd p k hp hk]; exact q4 k⟩⟩
    · exact ⟨0, fun q => (hp q).elim⟩
  obtain ⟨fr, hfr⟩ : ∃ fr : Nat → Nat, ∀ p, p < 64 → P.pr p = true → B.pg ((A.last : Int) + 1) p = some (fr p, P.wr p) ∧ ∀ k, k < 8 → B.wd (fr p) k = P.wd p k := ⟨fun p => Classical.choose (hex p), fun p => Classical.choose_spec (hex p)⟩
  have hpr : ∀ p b, p < 64 → G.P p = some b → P.pr p = true := fun p b hp e => by rw [hr.gp.pr p hp, e]; rfl
  have kO : ∀ b, R.isPg b → rankF P fr R.made psi (R'.Id b) = psi (R.Id b) := fun b hb => by
    rw [(hr.oId b hb).1, rankF_old (h.idB b hb)]
  have kN : ∀ p b, p < 64 → G.P p = some b → rankF P fr R.made psi (R'.Id b) = fr p := fun p b hp e => by
    rw [(hr.nId p b hp e).1, rankF_new hp (hpr p b hp e)]
  -- a frame of an old page is none of the new
  have hsep : ∀ b p b', R.isPg b → p < 64 → G.P p = some b' → psi (R.Id b) ≠ fr p := fun b p b' hb hp e x => by
    obtain ⟨X, hX, q, hq, eX⟩ := hb
    have e1 := h.pg X hX q hq
    rw [eX] at e1
    have e2 := (hfr p hp (hpr p b' hp e)).1
    rw [← x] at e2
    exact t.sep X.N p q _ _ _ (hold X hX) hp hq e2 e1
  refine ⟨rankF P fr R.made psi, by rw [hr.n]; exact t.n.trans h.n, by rw [hr.last]; exact m2.trans (by show A.last + 1 = _; rw [hl]), by rw [hr.L, List.length_append]; exact m1.trans (by show A.cnt + 1 = _; rw [h.cnt]; rfl), ?_, fun X hX => ?_, fun g => ?_, fun X hX p hp => ?_, fun b b' hb hb' e => ?_, fun b hb => ?_, fun b b' hb hb' e => ?_, fun b hb k hk => ?_, fun X hX => ?_⟩
  · rw [hr.L, List.map_append, List.nodup_append]
    refine ⟨h.nd, by simp, fun a ha b hb e => ?_⟩
    obtain ⟨X, hX, rfl⟩ := List.mem_map.1 ha
    simp only [List.map_cons, List.map_nil, List.mem_singleton] at hb
    exact hold X hX (by rw [e, hb, hN])
  · rw [hr.last]
    rw [hr.L] at hX
    rcases List.mem_append.1 hX with q | q
    · have := h.pos X q; omega
    · rw [List.mem_singleton] at q; subst q; rw [hr.N]; omega
  · show B.has g = true ↔ _
    rw [t.has, hr.L]
    show (if g = (A.last : Int) + 1 then true else A.has g) = true ↔ _
    by_cases e : g = (A.last : Int) + 1
    · rw [if_pos e]
      exact ⟨fun _ => ⟨G, List.mem_append.2 (Or.inr (by simp)), by rw [hN, e]⟩, fun _ => rfl⟩
    · rw [if_neg e, h.has]
      constructor
      · rintro ⟨X, hX, e⟩
        exact ⟨X, List.mem_append.2 (Or.inl hX), e⟩
      · rintro ⟨X, hX, e2⟩
        rcases List.mem_append.1 hX with q | q
        · exact ⟨X, q, e2⟩
        · rw [List.mem_singleton] at q; subst q
          exact (e (by rw [← e2, hN])).elim
  · rw [hpg]
    rw [hr.L] at hX
    rcases List.mem_append.1 hX with q | q
    · rw [t.oth X.N p (hold X q)]
      refine (h.pg X q p hp).trans ?_
      cases e : X.P p with
      | none => rfl
      | some b =>
        show some (psi (R.Id b), X.Wr p) = some (rankF P fr R.made psi (R'.Id b), X.Wr p)
        rw [kO b ⟨X, q, p, hp, e⟩]
    · rw [List.mem_singleton] at q; subst q
      rw [hN]
      cases e : X.P p with
      | none =>
        rcases t.mine p hp with ⟨q1, q2⟩ | ⟨q1, q2, f, q3, q4⟩
        · exact q1
        · rw [hQ.pr p hp, hr.gp.pr p hp, e] at q2; cases q2
      | some b =>
        show _ = some (rankF P fr R.made psi (R'.Id b), X.Wr p)
        rw [kN p b hp e, (hfr p hp (hpr p b hp e)).1, hr.gp.wr p b hp e]
  · rcases hr.isPg hb with x | ⟨p, hp, x⟩ <;> rcases hr.isPg hb' with y | ⟨q, hq, y⟩
    · rw [(hr.oId b x).1, (hr.oId b' y).1] at e
      exact h.idI b b' x y e
    · rw [(hr.oId b x).1, (hr.nId q b' hq y).1] at e
      have := h.idB b x
      have := cntF_pos (hpr q b' hq y)
      omega
    · rw [(hr.nId p b hp x).1, (hr.oId b' y).1] at e
      have := h.idB b' y
      have := cntF_pos (hpr p b hp x)
      omega
    · rw [(hr.nId p b hp x).1, (hr.nId q b' hq y).1] at e
      have : p = q := cntF_inj (hpr p b hp x) (hpr q b' hq y) (by omega)
      subst this
      rw [x] at y
      exact Option.some.inj y
  · rw [hr.made]
    rcases hr.isPg hb with x | ⟨p, hp, x⟩
    · have := h.idB b x
      rw [(hr.oId b x).1]
      omega
    · rw [(hr.nId p b hp x).1]
      have := cntF_mono (f := P.pr) (show p + 1 ≤ 64 by omega)
      omega
  · rcases hr.isPg hb with x | ⟨p, hp, x⟩ <;> rcases hr.isPg hb' with y | ⟨q, hq, y⟩
    · rw [kO b x, kO b' y] at e
      exact h.psI b b' x y e
    · rw [kO b x, kN q b' hq y] at e
      exact (hsep b q b' x hq y e).elim
    · rw [kN p b hp x, kO b' y] at e
      exact (hsep b' p b y hp x e.symm).elim
    · rw [kN p b hp x, kN q b' hq y] at e
      have e1 := (hfr p hp (hpr p b hp x)).1
      have e2 := (hfr q hq (hpr q b' hq y)).1
      rw [← e] at e2
      have := m3 p q _ _ _ hp hq e1 e2
      subst this
      rw [x] at y
      exact Option.some.inj y
  · show B.wd _ k = _
    rcases hr.isPg hb with x | ⟨p, hp, x⟩
    · obtain ⟨X, hX, q, hq, eX⟩ := x
      have x : R.isPg b := ⟨X, hX, q, hq, eX⟩
      have e1 := h.pg X hX q hq
      rw [eX] at e1
      rw [kO b x, t.ow X.N q _ _ k (hold X hX) hq e1, (hr.oId b x).2 k hk]
      exact h.wd b x k hk
    · rw [kN p b hp x, (hfr p hp (hpr p b hp x)).2 k hk, (hr.nId p b hp x).2 k hk, hr.gp.wd p b hp x k hk]
  · show (if X.N = (A.last : Int) + 1 then Q.root else B.rt X.N) = X.root ∧ _
    rw [hr.L] at hX
    rcases List.mem_append.1 hX with q | q
    · rw [if_neg (hold X q), t.rt]
      show (if X.N = (A.last : Int) + 1 then -1 else A.rt X.N) = X.root ∧ _
      rw [if_neg (hold X q)]
      exact h.rt X q
    · rw [List.mem_singleton] at q; subst q
      rw [if_pos hN, hQ.root]
      exact ⟨hr.gp.root.symm, by rw [hr.gp.root]; exact hg0, by rw [hr.gp.root]; exact hg1⟩
end Go.Proofs.YtfcepnhknmbaaaaGreat

/- The contracts of the document's Guested, Save, Upgrade. -/
namespace Go.Proofs.YtfcepnhknmbaaaaGreat
open Go.RowKit Go.Deep

theorem ReadG.conv {w w' : World} {e : Ending} {ok ok' : Prop} {P P' : Pic} (h : ReadG w e w' ok P) (hi : ok ↔ ok') (hp : ok → P = P') : ReadG w e w' ok' P' := by
  refine ⟨fun q => ?_, fun q => h.2 (fun r => q (hi.1 r))⟩
  have := h.1 (hi.2 q)
  rw [hp (hi.2 q)] at this
  exact this

section
variable (w : World) (s : ByteArray) (hs : s.size ≤ maxLen) (hcv : isCV s = true)
theorem first_any (w : World) (s : ByteArray) (hs : s.size ≤ maxLen) (hcv : isCV s = true) (hf : bt (nats s) 2 = 1) : Calls Tryz.prog 107 #[.string s] w fun e w' => ReadG w e w' (Valid (nats s)) (picOf (nats s)) := by
  obtain ⟨c0, c1⟩ := cv_bt hcv
  by_cases hh : Head1 s
  · refine (firstGood_any w s hh).mono (fun e w' h => h.conv ⟨fun q => Or.inl (form1_of c0 c1 hf hh q), fun q => (form_of_valid1 hf q).ok⟩ (fun _ => ?_))
    rw [picOf, if_pos hf]
  · refine (firstBad_any w s hs hh).mono (fun e w' h => ReadG.no (fun q => hh (head1_of (form_of_valid1 hf q))) h.1 h.2)
theorem second_any (w : World) (s : ByteArray) (hs : s.size ≤ maxLen) (hcv : isCV s = true) (hf : bt (nats s) 2 = 2) : Calls Tryz.prog 108 #[.string s] w fun e w' => ReadG w e w' (Valid (nats s)) (picOf (nats s)) := by
  obtain ⟨c0, c1⟩ := cv_bt hcv
  by_cases hh : Head2 s
  · refine (secondGood_any w s hh).mono (fun e w' h => h.conv ⟨fun q => Or.inr (Or.inl (form2_of c0 c1 hf hh q.1 q.2)), fun q => ⟨(form_of_valid2 hf q).root, (form_of_valid2 hf q).ok⟩⟩ (fun _ => ?_))
    rw [picOf, if_neg (by omega), if_pos hf]
  · refine (secondBad_any w s hs hh).mono (fun e w' h => ReadG.no (fun q => hh (head2_of (form_of_valid2 hf q))) h.1 h.2)
theorem thirdV_any (w : World) (s : ByteArray) (hs : s.size ≤ maxLen) (hf : bt (nats s) 2 = 3) : Calls Tryz.prog 109 #[.string s] w fun e w' => ReadG w e w' (Valid (nats s)) (picOf (nats s)) := by
  refine (third_any w s hs).mono (fun e w' h => h.conv ⟨fun q => Or.inr (Or.inr q), fun q => form_of_valid3 hf q⟩ (fun _ => ?_))
  rw [picOf, if_neg (by omega), if_neg (by omega)]
end

theorem cv_list {s : ByteArray} : ((s.extract 0 2).toList == [67, 86]) = isCV s := by
  rw [isCV, Bool.eq_iff_iff, beq_iff_eq, beq_iff_eq]
  have hx := nats_extract s 0 2
  rw [List.drop_zero] at hx
  rw [← hx, ByteArray.toList_eq]
  constructor
  · intro q
    simp only [nats, q]
    rfl
  · intro q
    have : s.extract 0 2 = toS [67, 86] := by rw [← q, toS_nats]
    rw [this]
    rfl

set_option maxRecDepth 100000 in
set_option maxHeartbeats 1000000 in
theorem guested_any (w : World) (s : ByteArray) (hs : s.size ≤ maxLen) : Calls Tryz.prog 76 #[.string s] w fun e w' => ReadG w e w' (Valid (nats s)) (picOf (nats s)) := by
  have hnl := nats_len s
  have HSZ := hid hs
  unfold maxLen at hs
  by_cases h3 : s.size < 3
  · have h3' : (s.size : Int) < 3 := by omega
    have HNO : Hid (¬ Valid (nats s)) := fun q => by have := valid_size q; omega
    go_enter Tryz.func76, Tryz.ntmps76
    go_wp2
    go_ret
    exact ReadG.no HNO.out rfl (Only.refl _ _)
  · have h3' : ¬ (s.size : Int) < 3 := by omega
    have h2' : (2 : Int) ≤ (s.size : Int) := by omega
    have hcl := cv_list (s := s)
    cases hcv : isCV s with
    | false =>
      rw [hcv] at hcl
      have HNO : Hid (¬ Valid (nats s)) := notCV hcv
      go_enter Tryz.func76, Tryz.ntmps76
      go_wp2
      go_ret
      exact ReadG.no HNO.out rfl (Only.refl _ _)
    | true =>
      rw [hcv] at hcl
      have i2 : 2 < s.size := by omega
      have j2 : (2 : Int) < (s.size : Int) := by omega
      have HB := hid (nats_bt i2)
      have hb := bytes_bt (nats_bys s) 2
      have hB : s[2].toNat = bt (nats s) 2 := by have := HB.out; omega
      have HCV := hid hcv
      generalize hT : bt (nats s) 2 = T at hB hb HB
      clear hcv
      by_cases e1 : T = 1
      · subst e1
        have HC := hid (fun w => first_any w s HSZ.out HCV.out hT)
        clear hT
        go_enter Tryz.func76, Tryz.ntmps76
        go_wp2_with fail
        refine (HC.out _).mono ?_
        intro e w1 h1
        by_cases hv : Valid (nats s)
        · obtain ⟨G, Wd, rfl, hG, hP⟩ := h1.1 hv
          have HX := hid (And.intro hv (And.intro hG hP))
          clear h1 hv hG hP
          go_wp2
          go_ret
          exact ReadG.yes HX.out.1 rfl HX.out.2.1 HX.out.2.2
        · obtain ⟨rfl, o⟩ := h1.2 hv
          have HX := hid (And.intro hv o)
          clear h1 hv o
          go_wp2
          go_ret
          exact ReadG.no HX.out.1 rfl HX.out.2
      · by_cases e2 : T = 2
        · subst e2
          have HC := hid (fun w => second_any w s HSZ.out HCV.out hT)
          clear hT
          go_enter Tryz.func76, Tryz.ntmps76
          go_wp2_with fail
          refine (HC.out _).mono ?_
          intro e w1 h1
          by_cases hv : Valid (nats s)
          · obtain ⟨G, Wd, rfl, hG, hP⟩ := h1.1 hv
            have HX := hid (And.intro hv (And.intro hG hP))
            clear h1 hv hG hP
            go_wp2
            go_ret
            exact ReadG.yes HX.out.1 rfl HX.out.2.1 HX.out.2.2
          · obtain ⟨rfl, o⟩ := h1.2 hv
            have HX := hid (And.intro hv o)
            clear h1 hv o
            go_wp2
            go_ret
            exact ReadG.no HX.out.1 rfl HX.out.2
        · by_cases e3 : T = 3
          · subst e3
            have HC := hid (fun w => thirdV_any w s HSZ.out hT)
            clear hT
            go_enter Tryz.func76, Tryz.ntmps76
            go_wp2_with fail
            refine (HC.out _).mono ?_
            intro e w1 h1
            by_cases hv : Valid (nats s)
            · obtain ⟨G, Wd, rfl, hG, hP⟩ := h1.1 hv
              have HX := hid (And.intro hv (And.intro hG hP))
              clear h1 hv hG hP
              go_wp2
              go_ret
              exact ReadG.yes HX.out.1 rfl HX.out.2.1 HX.out.2.2
            · obtain ⟨rfl, o⟩ := h1.2 hv
              have HX := hid (And.intro hv o)
              clear h1 hv o
              go_wp2
              go_ret
              exact ReadG.no HX.out.1 rfl HX.out.2
          · have HNO : Hid (¬ Valid (nats s)) := fun q => by
              have := valid_form q
              omega
            have f1 : ((T : Int) == 1) = false := by rw [beq_eq_false_iff_ne]; omega
            have f2 : ((T : Int) == 2) = false := by rw [beq_eq_false_iff_ne]; omega
            have f3 : ((T : Int) == 3) = false := by rw [beq_eq_false_iff_ne]; omega
            clear hT e1 e2 e3
            go_enter Tryz.func76, Tryz.ntmps76
            go_wp2
            go_ret
            exact ReadG.no HNO.out rfl (Only.refl _ _)

/-! Save, Upgrade. -/
theorem refm_lie {w : World} {rb : Nat} {R : RS} (h : Refm w rb R) {G : RG} (hG : G ∈ R.L) : GLie w G R.Wd := by
  refine ⟨h.gs G hG, fun p b hp e => ?_⟩
  obtain ⟨t, r⟩ := h.ps b ⟨G, hG, p, hp, e⟩
  exact ⟨t, R.Id b, r⟩

set_option maxRecDepth 100000 in
set_option maxHeartbeats 1000000 in
theorem rsaveNone_any (w : World) (rb : Nat) (R : RS) (h : Refm w rb R) (n : Int) (hf : findFrom R.L n = none) :
    Calls Tryz.prog 40 #[pt rb, .int .i64 n] w fun e w' => e = .returned (.tuple #[.string { data := #[] }, .int .i64 4]) ∧ Only Nob w w' := by
  have HF := hid hf
  clear hf
  go_enter Tryz.func40, Tryz.ntmps40
  go_wp2_with fail
  refine (rguest_any _ rb R h n).mono ?_
  rintro e w1 ⟨rfl, rfl⟩
  rw [HF.out]
  simp only [Option.map_none, ptO_none]
  go_wp2
  go_ret2
  exact ⟨rfl, Only.refl _ _⟩
set_option maxRecDepth 100000 in
set_option maxHeartbeats 1000000 in
theorem rsaveSome_any (w : World) (rb : Nat) (R : RS) (h : Refm w rb R) (n : Int) (G : RG) (hf : findFrom R.L n = some G) (P : Pic) (hP : GPic G R.Wd P) (hG : P.Good) :
    Calls Tryz.prog 40 #[pt rb, .int .i64 n] w fun e w' => e = .returned (.tuple #[.string (toS (encL P)), .int .i64 0]) ∧ Only Nob w w' := by
  have HF := hid hf
  have HB := hid (rbytes_any w G R.Wd P (refm_lie h (findFrom_mem hf).1) hP hG)
  clear hf hP hG
  go_enter Tryz.func40, Tryz.ntmps40
  go_wp2_with fail
  refine (rguest_any _ rb R h n).mono ?_
  rintro e w1 ⟨rfl, rfl⟩
  rw [HF.out]
  simp only [Option.map_some, ptO_some]
  go_wp2_with fail
  refine HB.out.mono ?_
  rintro e w2 ⟨rfl, o⟩
  have HO := hid o
  clear o
  go_wp2
  go_ret2
  exact ⟨rfl, HO.out⟩
set_option maxRecDepth 100000 in
set_option maxHeartbeats 1000000 in
theorem rupgrade_any (w : World) (s : ByteArray) (hs : s.size ≤ maxLen) :
    Calls Tryz.prog 44 #[.string s] w fun e w' => (Valid (nats s) → e = .returned (.tuple #[.string (toS (encL (picOf (nats s)))), .int .i64 0])) ∧ (¬ Valid (nats s) → e = .returned (.tuple #[.string { data := #[] }, .int .i64 10])) ∧ Only Nob w w' := by
  have HC := hid (guested_any w s hs)
  go_enter Tryz.func44, Tryz.ntmps44
  go_wp2_with fail
  refine HC.out.mono ?_
  intro e w1 h1
  by_cases hv : Valid (nats s)
  · obtain ⟨G, Wd, rfl, hG, hP⟩ := h1.1 hv
    have HX := hid (And.intro hv (And.intro hG hP))
    have HB := hid (rbytes_any w1 G Wd _ hG.lie hP (valid_good (nats_bys s) hv).1)
    clear h1 hv hG hP
    go_wp2_with fail
    refine HB.out.mono ?_
    rintro e w2 ⟨rfl, o⟩
    have HO := hid o
    clear o
    go_wp2
    go_ret2
    exact ⟨fun _ => rfl, fun q => (q HX.out.1).elim, HX.out.2.1.o.trans HO.out⟩
  · obtain ⟨rfl, o⟩ := h1.2 hv
    have HX := hid (And.intro hv o)
    clear h1 hv o
    go_wp2
    go_ret2
    exact ⟨fun q => (HX.out.1 q).elim, fun _ => rfl, HX.out.2⟩
end Go.Proofs.YtfcepnhknmbaaaaGreat

/- The document's Restore, plainly: what lies in memory while it goes and behind it. -/
namespace Go.Proofs.YtfcepnhknmbaaaaGreat
open Go.RowKit Go.Deep

theorem Refm.setMade {w : World} {rb : Nat} {R : RS} (h : Refm w rb R) (m : Nat) {v : Int} (hv : v = (m : Int)) : Refm (w.setCell ⟨rb, 3, none⟩ (.int .i64 v)) rb { R with made := m } := by
  subst hv
  obtain ⟨t, r⟩ := h.row
  refine ⟨⟨t, (r.set 3 _).congr (fun j hj => ?_)⟩, owns_only h.sl ((Only.refl (One rb) w).setOne 3 _) (fun b hb e => h.n1 (by rw [hb, show b = rb from e])), fun g hg => ?_, fun b hb => ?_, h.n1, h.n2, h.n3, h.n4, h.n5, h.nd, h.many⟩
  · have e : j = 0 ∨ j = 1 ∨ j = 2 ∨ j = 3 := by omega
    rcases e with e | e | e | e <;> subst e <;> rfl
  · obtain ⟨t, r⟩ := h.gs g hg
    exact ⟨t, r.setOther (fun e => h.n2 ⟨g, hg, e⟩) _⟩
  · have hb : R.isPg b := hb
    obtain ⟨t, r⟩ := h.ps b hb
    exact ⟨t, r.setOther (fun e => h.n3 (by rw [← show b = rb from e]; exact hb)) _⟩

/-- While the pages get their numbers. -/
structure RLoop (w wr : World) (rb : Nat) (R : RS) (G : RG) (Wd : Nat → Nat → Int) (P : Pic) (k : Nat) : Prop where
  ref : Refm wr rb { R with made := R.made + cntF P.pr k }
  row : ∃ t, wr.rowIs G.gb t 130 G.cell
  ps : ∀ p b, p < 64 → G.P p = some b → ∃ t i, wr.rowIs b t 9 (pgC i (Wd b)) ∧ (p < k → i = ((R.made + cntF P.pr (p + 1) : Nat) : Int))
  o : Only (R.own rb) w wr

section
variable {w w1 wr : World} {rb : Nat} {R : RS} {G : RG} {Wd : Nat → Nat → Int} {P : Pic} {k : Nat}

/-- A new guest is none of the machine's. -/
structure Apt (w : World) (rb : Nat) (R : RS) (G : RG) : Prop where
  own : ∀ b, R.own rb b → b < w.heap.size
  lo : w.heap.size ≤ G.gb
  plo : ∀ p b, p < 64 → G.P p = some b → w.heap.size ≤ b ∧ b ≠ G.gb
  inj : ∀ p q b, p < 64 → q < 64 → G.P p = some b → G.P q = some b → p = q
theorem GNew.apt (hG : GNew w w1 G Wd) (h : Refm w rb R) : Apt w rb R G := ⟨fun _ hb => h.own_lt hb, hG.lo, hG.plo, hG.inj⟩
theorem RLoop.start (hG : GNew w w1 G Wd) (h : Refm w rb R) {w2 : World} (o : Only Nob w1 w2) : RLoop w w2 rb R G Wd P 0 := by
  refine ⟨h.nob (hG.o.trans o), (hG.nob o).lie.row, fun p b hp e => ?_, (hG.o.trans o).of_nob⟩
  obtain ⟨t, i, r⟩ := (hG.nob o).lie.ps p b hp e
  exact ⟨t, i, r, fun q => by omega⟩
theorem RLoop.skip (h : RLoop w wr rb R G Wd P k) (hp : P.pr k = false) (hn : G.P k = none) : RLoop w wr rb R G Wd P (k + 1) := by
  have e : cntF P.pr (k + 1) = cntF P.pr k := by rw [cntF, hp]; rfl
  refine ⟨by rw [e]; exact h.ref, h.row, fun p b hp' e' => ?_, h.o⟩
  obtain ⟨t, i, r, hi⟩ := h.ps p b hp' e'
  refine ⟨t, i, r, fun q => ?_⟩
  by_cases c : p = k
  · subst c; rw [hn] at e'; cases e'
  · exact hi (by omega)
theorem RLoop.next (h : RLoop w wr rb R G Wd P k) (ap : Apt w rb R G) (hk : k < 64) {b : Nat} (hb : G.P k = some b) (hp : P.pr k = true) {v : Int} (hv : v = ((R.made + cntF P.pr k + 1 : Nat) : Int)) :
    RLoop w ((wr.setCell ⟨rb, 3, none⟩ (.int .i64 v)).setCell ⟨b, 0, none⟩ (.int .i64 v)) rb R G Wd P (k + 1) := by
  have e : cntF P.pr (k + 1) = cntF P.pr k + 1 := by rw [cntF, hp]; rfl
  have hrb := ap.own rb (Or.inl rfl)
  have hbl := (ap.plo k b hk hb).1
  have hlo := ap.lo
  refine ⟨?_, ?_, fun p b' hp' e' => ?_, ?_⟩
  · have := h.ref.setMade (R.made + cntF P.pr (k + 1)) (v := v) (by rw [hv, e]; rfl)
    refine Refm.only (T := One b) this ((Only.refl (One b) _).setCell (p := ⟨b, 0, none⟩) (fun _ => rfl) _) (fun x hx q => ?_)
    have q : x = b := q
    have := ap.own x hx
    omega
  · obtain ⟨t, r⟩ := h.row
    exact ⟨t, (r.setOther (by show G.gb ≠ rb; omega) _).setOther (fun q => (ap.plo k b hk hb).2 q.symm) _⟩
  · obtain ⟨t, i, r, hi⟩ := h.ps p b' hp' e'
    have hb' := (ap.plo p b' hp' e').1
    have r1 := r.setOther (a := ⟨rb, 3, none⟩) (by show b' ≠ rb; omega) (.int .i64 v)
    by_cases c : p = k
    · subst c
      rw [hb] at e'
      injection e' with e'
      subst e'
      refine ⟨t, v, (r1.set 0 _).congr (fun j hj => ?_), fun _ => by rw [hv, e]; rfl⟩
      by_cases c0 : j = 0
      · rw [if_pos c0, pgC, if_pos c0]
      · rw [if_neg c0, pgC, pgC, if_neg c0, if_neg c0]
    · have hne : b' ≠ b := fun q => c (ap.inj p k b hp' hk (by rw [← q]; exact e') hb)
      exact ⟨t, i, r1.setOther hne _, fun q => hi (by omega)⟩
  · refine h.o.after (((Only.refl (fun x => x = rb ∨ x = b) wr).setCell (p := ⟨rb, 3, none⟩) (fun _ => Or.inl rfl) _).setCell (p := ⟨b, 0, none⟩) (fun _ => Or.inr rfl) _) (fun x hx q => ?_)
    rcases q with q | q
    · exact Or.inl q
    · omega
theorem RLoop.nob (h : RLoop w wr rb R G Wd P k) {w2 : World} (o : Only Nob wr w2) : RLoop w w2 rb R G Wd P k := by
  obtain ⟨t, r⟩ := h.row
  refine ⟨h.ref.nob o, ⟨t, o.row r (fun q => q)⟩, fun p b hp e => ?_, h.o.trans o.of_nob⟩
  obtain ⟨t, i, r, hi⟩ := h.ps p b hp e
  exact ⟨t, i, o.row r (fun q => q), hi⟩
theorem RLoop.page (h : RLoop w wr rb R G Wd P k) {p : Nat} (hp : p < 64) : wr.cell? ⟨G.gb, 2 + p * 2, none⟩ = some (ptO (G.P p)) := by
  obtain ⟨t, r⟩ := h.row
  rw [r.cell (by omega), G.cellP]

/-- The number of a new page. -/
def idOf (G : RG) (P : Pic) (made b : Nat) : Int := match (List.range 64).find? (fun p => G.P p == some b) with | some p => ((made + cntF P.pr (p + 1) : Nat) : Int) | none => 0
theorem idOf_at (ap : Apt w rb R G) {p b : Nat} (hp : p < 64) (e : G.P p = some b) (made : Nat) : idOf G P made b = ((made + cntF P.pr (p + 1) : Nat) : Int) := by
  have hs : (List.range 64).find? (fun p => G.P p == some b) = some p := by
    cases q : (List.range 64).find? (fun p => G.P p == some b) with
    | none =>
      have := List.find?_eq_none.1 q p (List.mem_range.2 hp)
      simp [e] at this
    | some p' =>
      have h1 := List.find?_some q
      have h2 := List.mem_range.1 (List.mem_of_find?_eq_some q)
      have h1 : G.P p' = some b := by simpa using h1
      rw [ap.inj p' p b h2 hp h1 e]
  rw [idOf, hs]

def numbered (G : RG) (n : Nat) : RG := { G with N := (n : Int) }
/-- The document's machine behind Restore. -/
def RS.restored (R : RS) (v : Value) (G : RG) (P : Pic) (Wd : Nat → Nat → Int) (n : Nat) : RS :=
  { n := R.n, last := R.last + 1, made := R.made + cntF P.pr 64, gv := v, L := R.L ++ [numbered G (R.last + 1)], Id := fun b => if n ≤ b then idOf G P R.made b else R.Id b, Wd := fun b k => if n ≤ b then Wd b k else R.Wd b k }

theorem restored_is (ap : Apt w rb R G) (hP : GPic G Wd P) (v : Value) : Restored R (R.restored v G P Wd w.heap.size) (numbered G (R.last + 1)) P Wd := by
  have hlt : ∀ b, R.isPg b → b < w.heap.size := fun b hb => ap.own b (Or.inr (Or.inr (Or.inr hb)))
  refine ⟨rfl, rfl, rfl, rfl, by show ((R.last + 1 : Nat) : Int) = _; omega, ⟨hP.root, hP.pr, hP.wr, hP.wd, hP.no⟩, fun b hb => ?_, fun p b hp e => ?_, fun p b hp e hb => ?_, ap.inj⟩
  · have := hlt b hb
    refine ⟨?_, fun k _ => ?_⟩
    · show (if w.heap.size ≤ b then _ else R.Id b) = _
      rw [if_neg (by omega)]
    · show (if w.heap.size ≤ b then _ else R.Wd b k) = _
      rw [if_neg (by omega)]
  · have := (ap.plo p b hp e).1
    refine ⟨?_, fun k _ => ?_⟩
    · show (if w.heap.size ≤ b then idOf G P R.made b else _) = _
      rw [if_pos this, idOf_at ap hp e]
    · show (if w.heap.size ≤ b then Wd b k else _) = _
      rw [if_pos this]
  · have h1 := (ap.plo p b hp e).1
    have h2 := hlt b hb
    omega

/-- The world ahead of the append. -/
def rw1 (wr : World) (rb gb last : Nat) : World := ((wr.setCell ⟨rb, 2, none⟩ (.int .i64 ((last : Int) + 1))).setCell ⟨gb, 0, none⟩ (.int .i64 ((last : Int) + 1))).alloc (.cells #[.pointer (some ⟨gb, 0, none⟩)] 74)
theorem rw1_only (wr : World) (rb gb last : Nat) : Only (fun b => b = rb ∨ b = gb) wr (rw1 wr rb gb last) := (((Only.refl _ wr).setCell (p := ⟨rb, 2, none⟩) (fun _ => Or.inl rfl) _).setCell (p := ⟨gb, 0, none⟩) (fun _ => Or.inr rfl) _).alloc _
theorem rw1_size (wr : World) (rb gb last : Nat) : (rw1 wr rb gb last).heap.size = wr.heap.size + 1 := by rw [rw1, World.size_alloc, World.size_setCell, World.size_setCell]

theorem restored_facts (h : RLoop w wr rb R G Wd P 64) (ap : Apt w rb R G) (hc : R.L.length < 4) {v' : Value} {w' : World}
    (o1 : w'.ownsRow 0 74 1 v' (R.L.length + 1) ((R.L.map fun g => pt g.gb) ++ [pt G.gb])) (g1 : (rw1 wr rb G.gb R.last).grownBy w' R.gv.ownBlock)
    (o2 : v'.ownBlock = R.gv.ownBlock ∨ v'.ownBlock = some (rw1 wr rb G.gb R.last).heap.size) :
    w'.cell? ⟨rb, 1, none⟩ = some R.gv ∧ w'.frozen? ⟨rb, 1, none⟩ = false ∧ w'.cell? ⟨rb, 2, none⟩ = some (.int .i64 ((R.last : Int) + 1)) ∧
    Refm (w'.setCell ⟨rb, 1, none⟩ v') rb (R.restored v' G P Wd w.heap.size) ∧ Only (R.own rb) w (w'.setCell ⟨rb, 1, none⟩ v') ∧ (∀ b, (R.restored v' G P Wd w.heap.size).own rb b → R.own rb b ∨ w.heap.size ≤ b) := by
  have hlt := ap.own rb (Or.inl rfl)
  have hlo := ap.lo
  have hsz := rw1_size wr rb G.gb R.last
  have hco := rw1_only wr rb G.gb R.last
  have hws := h.o.size
  have hgs : ∀ b, R.isGs b → b < w.heap.size := fun b hb => ap.own b (Or.inr (Or.inr (Or.inl hb)))
  have hps : ∀ b, R.isPg b → b < w.heap.size := fun b hb => ap.own b (Or.inr (Or.inr (Or.inr hb)))
  have hvs : ∀ b, R.gv.ownBlock = some b → b < w.heap.size := fun b hb => ap.own b (Or.inr (Or.inl hb))
  have H := h.ref
  have hgo : ∀ k, k < wr.heap.size + 1 → R.gv.ownBlock ≠ some k → w'.heap[k]? = (rw1 wr rb G.gb R.last).heap[k]? := fun k hk hn => g1.block k (by omega) (fun e => hn e.symm)
  obtain ⟨t, r⟩ := H.row
  obtain ⟨tg, rg⟩ := h.row
  have hgb := rg.lt
  have r1 : (rw1 wr rb G.gb R.last).rowIs rb t 4 (fun j => if j = 2 then .int .i64 ((R.last : Int) + 1) else RS.cell { R with made := R.made + cntF P.pr 64 } j) := ((r.set 2 _).setOther (by show rb ≠ G.gb; omega) _).alloc _
  have r2 := r1.of_block (hgo rb (by omega) H.n1)
  have rg1 : (rw1 wr rb G.gb R.last).rowIs G.gb tg 130 (fun j => if j = 0 then .int .i64 ((R.last : Int) + 1) else G.cell j) := ((rg.setOther (by show G.gb ≠ rb; omega) _).set 0 _).alloc _
  have hn1 : v'.ownBlock ≠ some rb := by
    rcases o2 with e | e
    · rw [e]; exact H.n1
    · rw [e, hsz]; intro q; injection q with q; omega
  have hnew : ∀ b, v'.ownBlock = some b → R.gv.ownBlock = some b ∨ b = wr.heap.size + 1 := fun b hb => by
    rcases o2 with e | e
    · exact Or.inl (by rw [← e]; exact hb)
    · rw [e, hsz] at hb; injection hb with q; exact Or.inr q.symm
  have isG : ∀ b, (R.restored v' G P Wd w.heap.size).isGs b → R.isGs b ∨ b = G.gb := by
    rintro b ⟨g, hg, rfl⟩
    rcases List.mem_append.1 hg with q | q
    · exact Or.inl ⟨g, q, rfl⟩
    · rw [List.mem_singleton] at q; subst q; exact Or.inr rfl
  have isP : ∀ b, (R.restored v' G P Wd w.heap.size).isPg b → R.isPg b ∨ ∃ p, p < 64 ∧ G.P p = some b := by
    rintro b ⟨g, hg, p, hp, e⟩
    rcases List.mem_append.1 hg with q | q
    · exact Or.inl ⟨g, q, p, hp, e⟩
    · rw [List.mem_singleton] at q; subst q; exact Or.inr ⟨p, hp, e⟩
  have old : ∀ {b : Nat} {t : TypeId} {n : Nat} {f : Nat → Value}, wr.rowIs b t n f → b ≠ rb → b ≠ G.gb → R.gv.ownBlock ≠ some b → (w'.setCell ⟨rb, 1, none⟩ v').rowIs b t n f := fun {b} _ _ _ r q1 q3 q2 =>
    ((hco.row r (fun e => e.elim q1 q3)).of_block (hgo b (by have := r.lt; omega) q2)).setOther q1 _
  refine ⟨by rw [r2.cell (by omega)]; rfl, r2.frozen 1, by rw [r2.cell (by omega)]; rfl, ?_, ?_, ?_⟩
  · refine ⟨⟨t, (r2.set 1 _).congr (fun j hj => ?_)⟩, ?_, fun g hg => ?_, fun b hb => ?_, hn1, fun q => ?_, fun q => ?_, fun b hb => ⟨fun q => ?_, fun q => ?_⟩, fun b hb q => ?_, ?_, ?_⟩
    · have e : j = 0 ∨ j = 1 ∨ j = 2 ∨ j = 3 := by omega
      rcases e with e | e | e | e <;> subst e <;> rfl
    · have := owns_only o1 ((Only.refl (One rb) w').setOne 1 v') (fun b hb e => hn1 (by rw [hb, show b = rb from e]))
      simpa [RS.restored, numbered] using this
    · rcases List.mem_append.1 hg with q | q
      · obtain ⟨t, r⟩ := H.gs g q
        have := hgs g.gb ⟨g, q, rfl⟩
        exact ⟨t, old r (fun e => H.n2 ⟨g, q, e⟩) (by omega) (fun e => (H.n4 _ e).1 ⟨g, q, rfl⟩)⟩
      · rw [List.mem_singleton] at q
        subst q
        refine ⟨tg, ((rg1.of_block (hgo G.gb (by omega) (fun e => ?_))).setOther (show G.gb ≠ rb by omega) _).congr (fun j hj => ?_)⟩
        · have := hvs _ e; omega
        · by_cases e : j = 0
          · subst e
            show Value.int .i64 ((R.last : Int) + 1) = Value.int .i64 ((R.last + 1 : Nat) : Int)
            rfl
          · rw [if_neg e]
            simp only [RG.cell, numbered, if_neg e]
    · rcases isP b hb with q | ⟨p, hp, e⟩
      · obtain ⟨t, r⟩ := H.ps b q
        have hb' := hps b q
        refine ⟨t, (old r (fun e => H.n3 (by rw [← e]; exact q)) (by omega) (fun e => (H.n4 _ e).2 q)).congr (fun j _ => ?_)⟩
        simp only [RS.pgCell, RS.restored, if_neg (show ¬ w.heap.size ≤ b by omega)]
      · obtain ⟨t, i, r, hi⟩ := h.ps p b hp e
        have hb' := ap.plo p b hp e
        refine ⟨t, (old r (by omega) hb'.2 (fun e => ?_)).congr (fun j _ => ?_)⟩
        · have := hvs _ e; omega
        · simp only [RS.pgCell, RS.restored, if_pos hb'.1, idOf_at ap hp e, pgC, hi hp]
    · rcases isG _ q with q | q
      · exact H.n2 q
      · omega
    · rcases isP _ q with q | ⟨p, hp, e⟩
      · exact H.n3 q
      · have := (ap.plo p _ hp e).1; omega
    · rcases hnew b hb with e | e <;> rcases isG _ q with q | q
      · exact (H.n4 b e).1 q
      · have := hvs b e; omega
      · have := hgs b q; omega
      · omega
    · rcases hnew b hb with e | e <;> rcases isP _ q with q | ⟨p, hp, e'⟩
      · exact (H.n4 b e).2 q
      · have := hvs b e; have := (ap.plo p _ hp e').1; omega
      · have := hps b q; omega
      · obtain ⟨t, i, r, _⟩ := h.ps p b hp e'
        have := r.lt
        omega
    · rcases isG _ hb with e | e <;> rcases isP _ q with q | ⟨p, hp, e'⟩
      · exact H.n5 b e q
      · have := hgs b e; have := (ap.plo p _ hp e').1; omega
      · have := hps b q; omega
      · exact (ap.plo p _ hp e').2 e
    · show ((R.L ++ [numbered G (R.last + 1)]).map fun g => g.gb).Nodup
      rw [List.map_append, List.nodup_append]
      refine ⟨H.nd, by simp, fun a ha b hb e => ?_⟩
      rw [List.mem_map] at ha
      obtain ⟨g, hg, rfl⟩ := ha
      have := hgs g.gb ⟨g, hg, rfl⟩
      simp [numbered] at hb
      omega
    · show (R.L ++ [_]).length ≤ 4
      simp; omega
  · have q1 : Only (R.own rb) w (rw1 wr rb G.gb R.last) := h.o.after hco (fun b hb e => by
      rcases e with e | e
      · exact Or.inl e
      · omega)
    have q2 : Only (fun b => R.gv.ownBlock = some b) (rw1 wr rb G.gb R.last) w' := ⟨g1.os, g1.tape, g1.output, g1.size, fun k hk hn => g1.block k hk (fun e => hn e.symm)⟩
    exact (q1.after q2 (fun b _ e => Or.inr (Or.inl e))).setCell (p := ⟨rb, 1, none⟩) (fun _ => Or.inl rfl) _
  · intro b hb
    rcases hb with hb | hb | hb | hb
    · exact Or.inl (Or.inl hb)
    · rcases hnew b hb with e | e
      · exact Or.inl (Or.inr (Or.inl e))
      · exact Or.inr (by omega)
    · rcases isG b hb with e | e
      · exact Or.inl (Or.inr (Or.inr (Or.inl e)))
      · exact Or.inr (by omega)
    · rcases isP b hb with e | ⟨p, hp, e⟩
      · exact Or.inl (Or.inr (Or.inr (Or.inr e)))
      · exact Or.inr (ap.plo p b hp e).1
end
end Go.Proofs.YtfcepnhknmbaaaaGreat

/- The contract of the document's Restore. -/
namespace Go.Proofs.YtfcepnhknmbaaaaGreat
open Go.RowKit Go.Deep

def RS.restoreCode (R : RS) (P : Pic) : Int := if 4 ≤ R.L.length then 2 else if R.free < P.frames then 3 else 0

set_option maxRecDepth 100000 in
set_option maxHeartbeats 1000000 in
theorem rrestoreBad_any (w : World) (rb : Nat) (s : ByteArray) (hs : s.size ≤ maxLen) (hV : ¬ Valid (nats s)) :
    Calls Tryz.prog 42 #[pt rb, .string s] w fun e w' => e = .returned (.tuple #[.int .i64 0, .int .i64 10]) ∧ Only Nob w w' := by
  have HC := hid (guested_any w s hs)
  have HV := hid hV
  clear hV
  go_enter Tryz.func42, Tryz.ntmps42
  go_wp2_with fail
  refine HC.out.mono ?_
  intro e w1 h1
  obtain ⟨rfl, o⟩ := h1.2 HV.out
  have HO := hid o
  clear h1 o
  go_wp2
  go_ret2
  exact ⟨rfl, HO.out⟩

set_option maxRecDepth 100000 in
set_option maxHeartbeats 4000000 in
theorem rrestore_any (w : World) (rb : Nat) (R : RS) (h : Refm w rb R) (hn : R.n ≤ 64) (hl : R.last < 1000000000000000000) (hmd : R.made < 1000000000000000000) (s : ByteArray) (hs : s.size ≤ maxLen) (hV : Valid (nats s)) :
    Calls Tryz.prog 42 #[pt rb, .string s] w fun e w' => ∃ R', Refm w' rb R' ∧ Only (R.own rb) w w' ∧ (∀ b, R'.own rb b → R.own rb b ∨ w.heap.size ≤ b) ∧
      (R.restoreCode (picOf (nats s)) = 0 → e = .returned (.tuple #[.int .i64 ((R.last : Int) + 1), .int .i64 0]) ∧ ∃ G Wd, Restored R R' G (picOf (nats s)) Wd) ∧
      (R.restoreCode (picOf (nats s)) ≠ 0 → e = .returned (.tuple #[.int .i64 0, .int .i64 (R.restoreCode (picOf (nats s)))]) ∧ R' = R) := by
  obtain ⟨i0, hi, hzz⟩ := Option.map_eq_some_iff.1 ptr_info
  simp only [Prod.mk.injEq] at hzz
  obtain ⟨hz0, hz1, hz2⟩ := hzz
  have HI := hid (And.intro hi (And.intro hz0 (And.intro hz1 hz2)))
  clear hi hz0 hz1 hz2
  have HC := hid (guested_any w s hs)
  have HV := hid hV
  obtain ⟨sa, cap, hgv⟩ := gv_shape h
  have HG := hid hgv
  have H := hid h
  have hfb := R.free_bd hn h.many
  generalize hPP : picOf (nats s) = P at *
  clear hgv
  go_enter Tryz.func42, Tryz.ntmps42
  go_wp2_with fail
  refine HC.out.mono ?_
  intro e w1 h1
  obtain ⟨G, Wd, rfl, hG, hPi⟩ := h1.1 HV.out
  have HGN := hid hG
  have HPi := hid hPi
  have HFR := hid hPi.frames
  have HAP := hid (hG.apt h)
  have hR1 := h.nob hG.o
  have c1 := hR1.c1
  rw [HG.out] at c1
  clear h1 hG hPi
  by_cases hm : 4 ≤ R.L.length
  · have hm2 : (4 : Int) ≤ (R.L.length : Int) := by omega
    have HCO : Hid (R.restoreCode P = 2) := if_pos hm
    have HR1 := hid hR1
    clear hR1
    go_wp2_with fail
    go_ret2
    exact ⟨R, HR1.out, HGN.out.o.of_nob, fun b q => Or.inl q, fun q => absurd (HCO.out.symm.trans q) (by omega), fun _ => ⟨by rw [HCO.out]; rfl, rfl⟩⟩
  · have hm2 : ¬ (4 : Int) ≤ (R.L.length : Int) := by omega
    have htb := rtabs_le G 8
    have HTB : Hid (G.tabs ≤ 9) := by rw [Hid, RG.tabs]; omega
    have HT := hid (rtablesG_any w1 G (fun p hp => (HGN.out.lie.page hp).1))
    go_wp2_with fail
    refine HT.out.mono ?_
    rintro e w2 ⟨rfl, rfl⟩
    have hTB := HTB.out
    generalize G.tabs = tb at *
    go_wp2_with fail
    go_loop [7, 8] (fun s7 s8 => ∃ k : Nat, k ≤ 64 ∧ s8 = .int .i64 k ∧ s7 = .int .i64 (tb + cntF P.pr k : Nat)) (fun _ s8 => 64 - (intOf s8).toNat)
    case atStart => exact ⟨0, by omega, rfl, rfl⟩
    case round =>
      obtain ⟨k, hk, rfl, rfl⟩ := hrel
      have hck := cntF_le P.pr k
      by_cases hlt : k < 64
      · have hcp := (HGN.out.lie.page hlt).1
        have hk2 : (k : Int) < 64 := by omega
        have hpr := HPi.out.pr k hlt
        cases hx : G.P k with
        | none =>
          rw [hx, ptO_none] at hcp
          rw [hx] at hpr
          have HN : Hid (cntF P.pr (k + 1) = cntF P.pr k) := by rw [Hid, cntF, hpr]; rfl
          clear hpr hx
          go_wp2_with fail
          go_round
          case rel => exact ⟨k + 1, by omega, by go_num, by rw [HN.out]⟩
          case measure => simp [intOf]; omega
        | some b =>
          rw [hx, ptO_some] at hcp
          rw [hx] at hpr
          have HN : Hid (cntF P.pr (k + 1) = cntF P.pr k + 1) := by rw [Hid, cntF, hpr]; rfl
          clear hpr hx
          go_wp2_with fail
          go_round
          case rel => exact ⟨k + 1, by omega, by go_num, by rw [HN.out]; go_num⟩
          case measure => simp [intOf]; omega
      · have hk64 : k = 64 := by omega
        subst hk64
        have HC64 := hid hck
        go_wp2_with fail
        refine (rfree_any _ rb R hR1 hn).mono ?_
        rintro e w3 ⟨rfl, ho3⟩
        have HO3 := hid ho3
        have hR3 := hR1.nob ho3
        have HR3 := hid hR3
        clear ho3
        by_cases hf : R.free < P.frames
        · have hf2 : R.free < ((tb + cntF P.pr 64 : Nat) : Int) := by have := HFR.out; omega
          have HCO : Hid (R.restoreCode P = 3) := by rw [Hid, RS.restoreCode, if_neg hm, if_pos hf]
          clear hR3 hR1
          generalize R.free = fr at *
          go_wp2_with fail
          go_ret2
          exact ⟨R, HR3.out, (HGN.out.o.trans HO3.out).of_nob, fun b q => Or.inl q, fun q => absurd (HCO.out.symm.trans q) (by omega), fun _ => ⟨by rw [HCO.out]; rfl, rfl⟩⟩
        · have hf2 : ¬ R.free < ((tb + cntF P.pr 64 : Nat) : Int) := by have := HFR.out; omega
          have HCO : Hid (R.restoreCode P = 0) := by rw [Hid, RS.restoreCode, if_neg hm, if_neg hf]
          have HL0 : Hid (RLoop w w3 rb R G Wd P 0) := RLoop.start HGN.out H.out HO3.out
          clear hR3 hR1 hf c1 hck
          generalize R.free = fr at *
          go_wp2_with fail
          go_loopw [10] (fun s10 wr => ∃ k : Nat, k ≤ 64 ∧ s10 = .int .i64 k ∧ RLoop w wr rb R G Wd P k) (fun s10 _ => 64 - (intOf s10).toNat)
          case atStart => exact ⟨0, by omega, rfl, HL0.out⟩
          case round =>
            clear HL0
            rename World => wr
            obtain ⟨k, hk, rfl, hRL⟩ := hrel
            have HRL := hid hRL
            have hne1 : G.gb ≠ rb := by have h1 := HAP.out.lo; have h2 := HAP.out.own rb (Or.inl rfl); omega
            by_cases hlt : k < 64
            · have hk2 : (k : Int) < 64 := by omega
              have hcp := hRL.page hlt
              have hpr := HPi.out.pr k hlt
              cases hx : G.P k with
              | none =>
                rw [hx, ptO_none] at hcp
                rw [hx] at hpr
                have HX := hid (hRL.skip hpr hx)
                clear hpr hx hRL
                go_wp2_with fail
                go_roundw
                case rel => exact ⟨k + 1, by omega, by go_num, HX.out⟩
                case measure => simp [intOf]; omega
              | some b =>
                rw [hx, ptO_some] at hcp
                rw [hx] at hpr
                have c3 := hRL.ref.c3
                have f3 := hRL.ref.fz 3
                have hrlt := hRL.ref.lt
                obtain ⟨tb2, ib, rbk, _⟩ := hRL.ps k b hlt hx
                have cb := rbk.cell (i := 0) (by omega)
                have fb := rbk.frozen 0
                have hbl := rbk.lt
                have hne2 : b ≠ rb := by have h1 := (HAP.out.plo k b hlt hx).1; have h2 := HAP.out.own rb (Or.inl rfl); omega
                have hck := cntF_le P.pr k
                have HX : Hid (∀ v : Int, v = ((R.made + cntF P.pr k : Nat) : Int) + 1 → RLoop w ((wr.setCell ⟨rb, 3, none⟩ (.int .i64 v)).setCell ⟨b, 0, none⟩ (.int .i64 v)) rb R G Wd P (k + 1)) := fun v hv => hRL.next HAP.out hlt hx hpr (by rw [hv]; rfl)
                clear hpr hx hRL rbk
                simp only at c3
                generalize hMM : R.made + cntF P.pr k = MM at *
                have hmm2 : MM ≤ 1000000000000000064 := by omega
                go_wp2_with fail
                go_region
                all_goals
                  go_wp2_with fail
                  go_roundw
                  case rel => exact ⟨k + 1, by omega, by go_num, (HX.out _ rfl).nob (Only.refl Nob _).drew⟩
                  case measure => simp [intOf]; omega
            · have hk64 : k = 64 := by omega
              subst hk64
              have c1 := hRL.ref.c1
              have c2 := hRL.ref.c2
              have f1 := hRL.ref.fz 1
              have f2 := hRL.ref.fz 2
              have hrlt := hRL.ref.lt
              obtain ⟨tg, rg⟩ := hRL.row
              have cg := rg.cell (i := 0) (by omega)
              have fg := rg.frozen 0
              have hgl := rg.lt
              simp only at c1 c2
              rw [HG.out] at c1
              have OW : Hid ((rw1 wr rb G.gb R.last).ownsRow 0 74 1 (.slice sa R.L.length cap) R.L.length (R.L.map fun g => pt g.gb)) := by
                have := owns_only hRL.ref.sl (rw1_only wr rb G.gb R.last) (fun b hb e => by
                  have hb : R.gv.ownBlock = some b := hb
                  rcases e with e | e
                  · exact hRL.ref.n1 (by rw [← e]; exact hb)
                  · have h1 := HAP.out.lo
                    have h2 := HAP.out.own b (Or.inr (Or.inl hb))
                    omega)
                have this : (rw1 wr rb G.gb R.last).ownsRow 0 74 1 R.gv R.L.length (R.L.map fun g => pt g.gb) := this
                rw [HG.out] at this
                exact this
              have HN : Hid (∀ (j : Nat) (u : Value), [pt G.gb][j]? = some u → (rw1 wr rb G.gb R.last).cell? ((⟨wr.heap.size, 0, none⟩ : Addr).add j) = some u) := by
                intro j u hj
                rcases j with _ | j
                · simp at hj
                  subst hj
                  have q := Only.laid (w := (wr.setCell ⟨rb, 2, none⟩ (.int .i64 ((R.last : Int) + 1))).setCell ⟨G.gb, 0, none⟩ (.int .i64 ((R.last : Int) + 1))) (c := #[.pointer (some ⟨G.gb, 0, none⟩)]) (t := 74) (Only.refl Nob _) (fun q => q) 0
                  rw [World.size_setCell, World.size_setCell] at q
                  exact q
                · simp at hj
              have H1 : Hid (∀ u ∈ [pt G.gb], u.oneCell' = true) := by
                intro u hu
                rw [List.mem_singleton] at hu
                subst hu
                rfl
              have HB1 : Hid (R.L.length + 1 ≤ maxLen) := by unfold Hid maxLen; omega
              have HB2 : Hid ((R.L.length + 1) * 8 ≤ 140737488355328) := by unfold Hid; omega
              have HFX : Hid (∀ (v' : Value) (w' : World), w'.ownsRow 0 74 1 v' (R.L.length + 1) ((R.L.map fun g => pt g.gb) ++ [pt G.gb]) → (rw1 wr rb G.gb R.last).grownBy w' (Value.slice sa R.L.length cap).ownBlock → (v'.ownBlock = (Value.slice sa R.L.length cap).ownBlock ∨ v'.ownBlock = some (rw1 wr rb G.gb R.last).heap.size) → w'.cell? ⟨rb, 1, none⟩ = some (Value.slice sa R.L.length cap) ∧ w'.frozen? ⟨rb, 1, none⟩ = false ∧ w'.cell? ⟨rb, 2, none⟩ = some (.int .i64 ((R.last : Int) + 1)) ∧ Hid (Refm (w'.setCell ⟨rb, 1, none⟩ v') rb (R.restored v' G P Wd w.heap.size) ∧ Only (R.own rb) w (w'.setCell ⟨rb, 1, none⟩ v') ∧ (∀ b, (R.restored v' G P Wd w.heap.size).own rb b → R.own rb b ∨ w.heap.size ≤ b))) := fun v' w' a1 a2 a3 => by
                rw [← HG.out] at a2 a3 ⊢
                obtain ⟨x1, x2, x3, x4⟩ := restored_facts hRL HAP.out (by omega) a1 a2 a3
                exact ⟨x1, x2, x3, x4⟩
              clear hRL rg
              go_wp2_with (at_builtin; refine wpList_append_own_at (rw1 wr rb G.gb R.last) rfl _ _ 70 rfl 0 74 i0 (.pointer none) 1 8 Tryz.underlying70 HI.out.1 HI.out.2.1 HI.out.2.2.1 HI.out.2.2.2 rfl (by decide) (.slice sa R.L.length cap) R.L.length (R.L.map fun g => pt g.gb) rfl OW.out ⟨wr.heap.size, 0, none⟩ 1 1 [pt G.gb] rfl rfl HN.out H1.out HB1.out HB2.out (Nat.zero_le _) ?_; intro v' w' o1 g1 hnil o2; obtain ⟨sb, cp, rfl⟩ := owns_pos o1; obtain ⟨x1, x2, x3, X4⟩ := HFX.out _ w' o1 g1 o2; clear o1 g1 hnil o2)
              go_wp2_with fail
              go_ret2
              obtain ⟨y1, y2, y3⟩ := X4.out
              exact ⟨_, y1, y2, y3, fun _ => ⟨rfl, _, _, restored_is HAP.out HPi.out _⟩, fun q => (q HCO.out).elim⟩
end Go.Proofs.YtfcepnhknmbaaaaGreat
