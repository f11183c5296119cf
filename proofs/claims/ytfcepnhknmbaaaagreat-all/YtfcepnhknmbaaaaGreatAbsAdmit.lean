/- The contracts of admit and Create in a law's words. -/
import Derived.Test.YtfcepnhknmbaaaaGreatAbsC
import Derived.Test.YtfcepnhknmbaaaaGreatAdmit
namespace Go.Proofs.YtfcepnhknmbaaaaGreat
open Go.RowKit Go.Deep

/-! Words that are filled in. -/
theorem Mm.same {M M' : Mm} (hn : M.n = M'.n) (hW : ∀ j l, M.W j l = M'.W j l) (hU : ∀ j, M.U j = M'.U j) : M = M' := by
  cases M; cases M'
  simp only at hn hW hU
  subst hn
  have e1 := funext fun i => funext (hW i)
  have e2 := funext hU
  subst e1 e2
  rfl
theorem fillTo_W (M : Mm) (f : Nat) (ws : Nat → Int) : ∀ k j l, (M.fillTo f ws k).W j l = if j = f ∧ l < k then ws l else M.W j l
  | 0, j, l => by simp [Mm.fillTo]
  | k + 1, j, l => by
    simp only [Mm.fillTo, Mm.setW, upd2]
    rw [fillTo_W M f ws k j l]
    by_cases e : j = f ∧ l = k
    · rw [if_pos e, if_pos ⟨e.1, by omega⟩, e.2]
    · rw [if_neg e]
      by_cases e2 : j = f ∧ l < k
      · rw [if_pos e2, if_pos ⟨e2.1, by omega⟩]
      · rw [if_neg e2, if_neg (fun q => by
          by_cases e3 : l = k
          · exact e ⟨q.1, e3⟩
          · exact e2 ⟨q.1, by omega⟩)]
theorem fillTo_U (M : Mm) (f : Nat) (ws : Nat → Int) (k : Nat) : (M.fillTo f ws k).U = M.U := by
  induction k with
  | zero => rfl
  | succ k ih => exact ih
theorem fillTo_first (M : Mm) (f : Nat) (ws : Nat → Int) (k : Nat) : (M.fillTo f ws k).first = M.first := by
  simp only [Mm.first, fillTo_U, fillTo_n]
theorem fillTo_free (M : Mm) (f : Nat) (ws : Nat → Int) (k : Nat) : (M.fillTo f ws k).free = M.free := by
  simp only [Mm.free, fillTo_U, fillTo_n]
theorem fillTo_tbl (M : Mm) {f r : Nat} (ws : Nat → Int) (k p : Nat) (h : r ≠ f) : (M.fillTo f ws k).tbl r p = M.tbl r p := by
  show (M.fillTo f ws k).W r (p / 8) = M.W r (p / 8)
  rw [fillTo_W, if_neg (fun q => h q.1)]

theorem entered_fill {M : Mm} {r p f T : Nat} {b : Bool} {ws : Nat → Int} (hT : numb (M.tbl r p) = T) (hr : r ≠ f) (ht : T ≠ f) : (M.fillTo f ws 8).entered r p f b = (M.entered r p f b).fillTo f ws 8 := by
  refine Mm.same ?_ (fun j l => ?_) (fun j => ?_)
  · rw [fillTo_n]
    show (M.fillTo f ws 8).n = M.n
    rw [fillTo_n]
  · rw [fillTo_W]
    simp only [Mm.entered, Mm.setW, upd2]
    rw [fillTo_tbl M ws 8 p hr, fillTo_W, hT]
    by_cases e : j = T ∧ l = p % 8
    · rw [if_pos e, if_pos e, if_neg (fun q => ht (by rw [← e.1, q.1]))]
    · rw [if_neg e, if_neg e]
  · rw [fillTo_U]
    show (M.fillTo f ws 8).U j = M.U j
    rw [fillTo_U]

theorem tabled_fill {M : Mm} {r p f t : Nat} {ws : Nat → Int} (hr : r ≠ f) (ht : t ≠ f) : (M.fillTo f ws 8).tabled r p t = (M.tabled r p t).fillTo f ws 8 := by
  refine Mm.same ?_ (fun j l => ?_) (fun j => ?_)
  · rw [fillTo_n]
    show (M.fillTo f ws 8).n = M.n
    rw [fillTo_n]
  · rw [fillTo_W]
    simp only [Mm.tabled, Mm.setW, upd2]
    rw [addRt_W, addRt_W, fillTo_W]
    by_cases e : j = f
    · have e1 : ¬ (j = r ∧ l = p / 8) := fun q => hr (by rw [← q.1, e])
      have e2 : ¬ j = t := fun q => ht (by rw [← q, e])
      simp only [if_neg e1, if_neg e2]
    · have e3 : ¬ (j = f ∧ l < 8) := fun q => e q.1
      simp only [if_neg e3]
  · rw [fillTo_U]
    show ((M.fillTo f ws 8).take t).U j = (M.take t).U j
    rw [addRt_U, addRt_U, fillTo_U]

theorem enter_fill {M : Mm} {r p f : Nat} {b : Bool} {ws : Nat → Int} (hn : M.n ≤ 64) (hr : r ≠ f) (ht : pres (M.tbl r p) = true → numb (M.tbl r p) ≠ f) (hU : M.U f ≠ 0) : (M.fillTo f ws 8).enter r p f b = (M.enter r p f b).fillTo f ws 8 := by
  simp only [Mm.enter, fillTo_tbl M ws 8 p hr, fillTo_first]
  cases hx : pres (M.tbl r p) with
  | true =>
    simp only [if_true]
    exact entered_fill rfl hr (ht hx)
  | false =>
    simp only [Bool.false_eq_true, if_false]
    cases hf : M.first with
    | none => rfl
    | some t =>
      obtain ⟨htn, htu⟩ := first_lt hf
      have hne : t ≠ f := fun e => hU (by rw [← e]; exact htu)
      simp only
      rw [tabled_fill hr hne]
      have hT : numb ((M.tabled r p t).tbl r p) = t := by rw [tabled_tbl, numb_entryOf t true (by omega)]
      exact entered_fill hT hr hne

theorem Inv.fill {S : MS} {H : Hs} (h : Inv S H) {g : Int} {r p f : Nat} (hg : S.G g = some r) (hp : p < 64) (hx : pres (S.M.ent r p) = true) (hf : numb (S.M.ent r p) = f) (ws : Nat → Int) :
    ∀ k, Inv (S.withM (S.M.fillTo f ws k)) H ∧ ∀ g' r' p', S.G g' = some r' → p' < 64 → (S.M.fillTo f ws k).ent r' p' = S.M.ent r' p'
  | 0 => ⟨h, fun _ _ _ _ _ => rfl⟩
  | k + 1 => by
    obtain ⟨h1, h2⟩ := Inv.fill h hg hp hx hf ws k
    have e := h2 g r p hg hp
    have := h1.wrote (g := g) (p := (p : Int)) (k := k) (v := ws k) (r := r) hg (by omega) (by omega) (by rw [Int.toNat_natCast]; show pres ((S.M.fillTo f ws k).ent r p) = true; rw [e]; exact hx) (Goes.refl 0 _ _ _)
    rw [Int.toNat_natCast] at this
    have e2 : numb ((S.withM (S.M.fillTo f ws k)).M.ent r p) = f := by
      show numb ((S.M.fillTo f ws k).ent r p) = f
      rw [e]; exact hf
    rw [e2] at this
    obtain ⟨a1, a2⟩ := this
    exact ⟨a2, fun g' r' p' hg' hp' => (a1 g' r' p' hg' hp').trans (h2 g' r' p' hg' hp')⟩

/-- A page has come, with its words. -/
def Abs.filled (A : Abs) (g : Int) (p f : Nat) (b : Bool) (ws : Nat → Int) : Abs :=
  { A with pg := fun g' p' => if g' = g ∧ p' = p then some (f, b) else A.pg g' p', wd := fun f' k => if f' = f then ws k else A.wd f' k, free := A.free - A.need g p }

theorem add_filled {S : MS} {H : Hs} {A : Abs} (hI : Inv S H) (hS : Sees S A) {g : Int} {r p : Nat} (hg : S.G g = some r) (hp : p < 64) (hnone : A.pg g p = none) (hfree : A.need g p ≤ A.free) (b : Bool) (ws : Nat → Int) :
    ∃ f H', S.M.first = some f ∧ f ≤ 63 ∧ r < S.M.n ∧
      ((pres (((S.M.take f).fillTo f ws 8).tbl r p) = true ∧ numb (((S.M.take f).fillTo f ws 8).tbl r p) < S.M.n) ∨ (pres (((S.M.take f).fillTo f ws 8).tbl r p) = false ∧ ∃ t, ((S.M.take f).fillTo f ws 8).first = some t)) ∧
      Inv (S.withM (((S.M.take f).fillTo f ws 8).enter r p f b)) H' ∧ Sees (S.withM (((S.M.take f).fillTo f ws 8).enter r p f b)) (A.filled g p f b ws) ∧ A.New f := by
  have hle := hI.ok.le
  have hn1 : 1 ≤ A.need g p := by simp only [Abs.need]; split <;> omega
  obtain ⟨f, hf⟩ := Mm.first_some (M := S.M) (by rw [← hS.free]; omega)
  obtain ⟨hfn, hu⟩ := first_lt hf
  have hrn := (hI.ok.rootN hg).1
  have hrf := hI.ok.root_ne_free hu hg
  have ha : pres (S.M.ent r p) = false := by
    have := hS.pg g r p hg hp
    rw [hnone] at this
    rw [← pgOf_isSome, ← this]
    rfl
  have hgrp := hS.grp hI hg (k := p / 8) (by omega)
  have htb : (S.M.take f).tbl r p = S.M.tbl r p := by
    show (S.M.take f).W r (p / 8) = S.M.W r (p / 8)
    rw [addRt_W, if_neg hrf]
  have hUf : (S.M.take f).U f ≠ 0 := by rw [addRt_U, if_pos rfl]; omega
  have key : ∀ M', M' = (S.M.take f).enter r p f b → Came S.M M' S.G H g r p f b → M'.free + A.need g p = S.M.free → (pres (S.M.tbl r p) = true → numb (S.M.tbl r p) ≠ f) →
      ∃ H', Inv (S.withM (((S.M.take f).fillTo f ws 8).enter r p f b)) H' ∧ Sees (S.withM (((S.M.take f).fillTo f ws 8).enter r p f b)) (A.filled g p f b ws) := fun M' hM' hC hfr hne => by
    have hC' : Came S.M M' S.G H g r (p : Int).toNat f b := by rw [Int.toNat_natCast]; exact hC
    have hI1 := hI.mapped (g := g) (p := (p : Int)) (r := r) (f := f) (b := b) (M' := M') (by rw [Int.toNat_natCast]; exact ha) (Goes.refl 0 S _ _) hC'
    have hS1 := sees_mapped (kb := S.kb) (kn := S.kn) (K := S.K) hS hI hg hC hfr rfl (by omega)
    have hen : M'.ent r p = entryOf f b := hC.en
    obtain ⟨hI2, hE2⟩ := Inv.fill (S := S.withM M') hI1 (g := g) (r := r) (p := p) (f := f) hg hp (by show pres (M'.ent r p) = true; rw [hen]; exact pres_entryOf _ _) (by show numb (M'.ent r p) = f; rw [hen]; exact numb_entryOf f b (by omega)) ws 8
    have e : ((S.M.take f).fillTo f ws 8).enter r p f b = M'.fillTo f ws 8 := by
      rw [hM']
      exact enter_fill (by show S.M.n ≤ 64; exact hle) hrf (by rw [htb]; exact hne) hUf
    rw [e]
    refine ⟨_, hI2, ?_⟩
    refine ⟨?_, ?_, hS.cnt, hS.last, hS.kn, hS.has, ?_, ?_, ?_, hS.rt⟩
    · show A.n = (M'.fillTo f ws 8).n
      rw [fillTo_n]; exact hS1.n
    · show A.free - A.need g p = (M'.fillTo f ws 8).free
      rw [fillTo_free]; exact hS1.free
    · intro g' r' p' hg' hp'
      show (if g' = g ∧ p' = p then some (f, b) else A.pg g' p') = pgOf ((M'.fillTo f ws 8).ent r' p')
      have q := hE2 g' r' p' hg' hp'
      have q : (M'.fillTo f ws 8).ent r' p' = M'.ent r' p' := q
      rw [q]
      exact hS1.pg g' r' p' hg' hp'
    · intro g' p' q
      exact hS1.non g' p' q
    · intro g' p' f' b' k hp' hk q
      show (if f' = f then ws k else A.wd f' k) = (M'.fillTo f ws 8).W f' k
      rw [fillTo_W]
      by_cases e2 : f' = f
      · rw [if_pos e2, if_pos ⟨e2, hk⟩]
      · rw [if_neg e2, if_neg (fun q => e2 q.1)]
        have := hS1.wd g' p' f' b' k hp' hk q
        have this : (if f' = f then 0 else A.wd f' k) = M'.W f' k := this
        rw [if_neg e2] at this
        exact this
  cases hx : pres (S.M.tbl r p) with
  | true =>
    obtain ⟨hC, hfr⟩ := came_had hI.ok hI.full b hg hp ha hx hf
    have hnd : A.need g p = 1 := by
      simp only [Abs.need]
      rw [hgrp, show S.M.W r (p / 8) = S.M.tbl r p from rfl, if_pos hx]
    have hne : numb (S.M.tbl r p) ≠ f := hI.ok.tab_ne_free hu hg (by omega) hx
    obtain ⟨H', h1, h2⟩ := key _ (by simp only [Mm.enter, htb, hx, if_true]) hC (by rw [hnd]; exact hfr) (fun _ => hne)
    refine ⟨f, H', hf, by omega, hrn, Or.inl ⟨?_, ?_⟩, h1, h2, new_of_came hS hC⟩
    · rw [fillTo_tbl _ ws 8 p hrf, htb]; exact hx
    · rw [fillTo_tbl _ ws 8 p hrf, htb]; exact (hI.ok.tabN hg (k := p / 8) (by omega) hx).1
  | false =>
    have hnd : A.need g p = 2 := by
      simp only [Abs.need]
      rw [hgrp, if_neg (by rw [show S.M.W r (p / 8) = S.M.tbl r p from rfl, hx]; simp)]
    have hfr1 := take_free hfn hu
    have hAf := hS.free
    obtain ⟨t, ht⟩ := Mm.first_some (M := S.M.take f) (by omega)
    obtain ⟨hC, hfr⟩ := came_new hI.ok hI.full b hg hp hx hf ht
    obtain ⟨H', h1, h2⟩ := key _ (by simp only [Mm.enter, htb, hx, ht]; simp) hC (by rw [hnd]; exact hfr) (fun q => by rw [hx] at q; cases q)
    refine ⟨f, H', hf, by omega, hrn, Or.inr ⟨?_, t, ?_⟩, h1, h2, new_of_came hS hC⟩
    · rw [fillTo_tbl _ ws 8 p hrf, htb]; exact hx
    · rw [fillTo_first]; exact ht

/-! A guest's pages, one behind the other. -/
def Adm (P : Pic) (A : Abs) (g : Int) : Nat → Abs → Prop
  | 0, A' => A' = A
  | k + 1, A' => ∃ B, Adm P A g k B ∧ (P.pr k = true → ∃ f, B.New f ∧ A' = B.filled g k f (P.wr k) (P.wd k)) ∧ (P.pr k = false → A' = B)

theorem Pic.grpTo_cases (P : Pic) : ∀ k, (P.grpTo k = -1 ∧ ∀ j, j < k → P.pr j = false) ∨ ∃ j, j < k ∧ P.pr j = true ∧ P.grpTo k = ((j / 8 : Nat) : Int) ∧ ∀ j', j < j' → j' < k → P.pr j' = false
  | 0 => Or.inl ⟨rfl, fun j hj => by omega⟩
  | k + 1 => by
    cases hb : P.pr k with
    | true => exact Or.inr ⟨k, by omega, hb, by simp [Pic.grpTo, hb], fun j' h1 h2 => by omega⟩
    | false =>
      have e : P.grpTo (k + 1) = P.grpTo k := by simp [Pic.grpTo, hb]
      rw [e]
      rcases P.grpTo_cases k with ⟨h1, h2⟩ | ⟨j, h1, h2, h3, h4⟩
      · exact Or.inl ⟨h1, fun j hj => by
          by_cases e : j = k
          · rw [e]; exact hb
          · exact h2 j (by omega)⟩
      · exact Or.inr ⟨j, by omega, h2, h3, fun j' q1 q2 => by
          by_cases e : j' = k
          · rw [e]; exact hb
          · exact h4 j' q1 (by omega)⟩
theorem Pic.grpTo_iff (P : Pic) (k : Nat) : ((k / 8 : Nat) : Int) = P.grpTo k ↔ ∃ j, j < k ∧ j / 8 = k / 8 ∧ P.pr j = true := by
  constructor
  · intro h
    rcases P.grpTo_cases k with ⟨h1, _⟩ | ⟨j, h1, h2, h3, _⟩
    · omega
    · exact ⟨j, h1, by omega, h2⟩
  · rintro ⟨j, h1, h2, h3⟩
    rcases P.grpTo_cases k with ⟨_, q⟩ | ⟨j', q1, q2, q3, q4⟩
    · rw [q j h1] at h3; cases h3
    · rw [q3]
      have : j ≤ j' := by
        rcases Nat.lt_or_ge j' j with q | q
        · rw [q4 j q h1] at h3; cases h3
        · exact q
      omega
theorem Pic.frTo_mono (P : Pic) {j k : Nat} (h : j ≤ k) : P.frTo j ≤ P.frTo k := by
  induction k with
  | zero => rw [show j = 0 by omega]; exact Nat.le_refl _
  | succ k ih =>
    by_cases e : j = k + 1
    · rw [e]; exact Nat.le_refl _
    · have := ih (by omega)
      simp only [Pic.frTo]
      split <;> (try split) <;> omega

theorem withM_withM (S : MS) (M M' : Mm) : (S.withM M).withM M' = S.withM M' := rfl

theorem admit_pure {S : MS} {H : Hs} {A : Abs} (hI : Inv S H) (hS : Sees S A) (P : Pic) {i : Nat} (hi : S.M.first = some i) (hc : S.cnt < 4) (hf : P.frames ≤ A.free) : ∀ k, k ≤ 64 →
    ∃ H' B, Inv ((S.created i).withM (P.memTo i (S.M.take i) k)) H' ∧ Sees ((S.created i).withM (P.memTo i (S.M.take i) k)) B ∧ Adm P A.created ((A.last : Int) + 1) k B ∧ B.free + P.frTo k = A.free ∧
      (∀ p, k ≤ p → p < 64 → B.pg ((A.last : Int) + 1) p = none) ∧ (∀ p, p < k → (B.pg ((A.last : Int) + 1) p).isSome = P.pr p) ∧ ∀ j, j < k → P.ready i j (P.memTo i (S.M.take i) j)
  | 0, _ => by
    obtain ⟨hg, hI', hS'⟩ := sees_created hI hS hi hc
    have h1 : 1 ≤ A.free := Nat.le_trans (P.frTo_mono (Nat.zero_le 64)) hf
    refine ⟨H, A.created, hI', hS', rfl, ?_, fun p _ _ => ?_, fun p q => by omega, fun j q => by omega⟩
    · show A.free - 1 + 1 = A.free
      omega
    · show A.pg _ p = none
      rw [hS.last]
      exact hS.non _ p hg
  | k + 1, hk => by
    obtain ⟨H1, B, hI1, hS1, hA, hfr, hn, hpr, hrd⟩ := admit_pure hI hS P hi hc hf k (by omega)
    cases hb : P.pr k with
    | false =>
      have e1 : P.memTo i (S.M.take i) (k + 1) = P.memTo i (S.M.take i) k := by simp [Pic.memTo, Pic.step, hb]
      have e2 : P.frTo (k + 1) = P.frTo k := by simp [Pic.frTo, hb]
      rw [e1, e2]
      refine ⟨H1, B, hI1, hS1, ⟨B, hA, ⟨fun q => absurd (hb.symm.trans q) (by simp), fun _ => rfl⟩⟩, hfr, fun p q => hn p (by omega), fun p q => ?_, fun j q => ?_⟩
      · by_cases e : p = k
        · rw [e, hn k (by omega) (by omega), hb]; rfl
        · exact hpr p (by omega)
      · by_cases e : j = k
        · rw [e]; intro q; rw [hb] at q; cases q
        · exact hrd j (by omega)
    | true =>
      have hg : ((S.created i).withM (P.memTo i (S.M.take i) k)).G ((A.last : Int) + 1) = some i := by
        show (if (A.last : Int) + 1 = (S.last : Int) + 1 then some i else S.G _) = some i
        rw [if_pos (by rw [hS.last])]
      have hgrp : B.grp ((A.last : Int) + 1) (k / 8) = true ↔ ((k / 8 : Nat) : Int) = P.grpTo k := by
        rw [P.grpTo_iff, Abs.grp, List.any_eq_true]
        constructor
        · rintro ⟨x, hx, q⟩
          have hx := List.mem_range.1 hx
          have hlt : 8 * (k / 8) + x < k := by
            rcases Nat.lt_or_ge (8 * (k / 8) + x) k with q1 | q1
            · exact q1
            · rw [hn _ q1 (by omega)] at q; cases q
          exact ⟨8 * (k / 8) + x, hlt, by omega, by rw [← hpr _ hlt]; exact q⟩
        · rintro ⟨j, h1, h2, h3⟩
          refine ⟨j % 8, List.mem_range.2 (by omega), ?_⟩
          rw [show 8 * (k / 8) + j % 8 = j by omega, hpr j h1]
          exact h3
      have e2 : P.frTo (k + 1) = P.frTo k + B.need ((A.last : Int) + 1) k := by
        simp only [Pic.frTo, hb, if_true, Abs.need]
        by_cases q : ((k / 8 : Nat) : Int) = P.grpTo k
        · rw [if_pos q, if_pos (hgrp.2 q)]
        · rw [if_neg q, if_neg (fun q2 => q (hgrp.1 q2))]
      have hm := P.frTo_mono (j := k + 1) (k := 64) hk
      have hfr' : P.frTo 64 ≤ A.free := hf
      have hneed : B.need ((A.last : Int) + 1) k ≤ B.free := by omega
      obtain ⟨f, H2, a1, a2, a3, a4, a5, a6, a7⟩ := add_filled hI1 hS1 hg (by omega) (hn k (Nat.le_refl _) (by omega)) hneed (P.wr k) (P.wd k)
      have a1' : (P.memTo i (S.M.take i) k).first = some f := a1
      have e1 : P.memTo i (S.M.take i) (k + 1) = (((P.memTo i (S.M.take i) k).take f).fillTo f (P.wd k) 8).enter i k f (P.wr k) := by simp [Pic.memTo, Pic.step, hb, a1']
      rw [e1]
      refine ⟨H2, B.filled ((A.last : Int) + 1) k f (P.wr k) (P.wd k), a5, a6, ⟨B, hA, ⟨fun _ => ⟨f, a7, rfl⟩, fun q => absurd (hb.symm.trans q) (by simp)⟩⟩, ?_, fun p q1 q2 => ?_, fun p q => ?_, fun j q => ?_⟩
      · show B.free - B.need ((A.last : Int) + 1) k + P.frTo (k + 1) = A.free
        omega
      · show (if (A.last : Int) + 1 = (A.last : Int) + 1 ∧ p = k then some (f, P.wr k) else B.pg _ p) = none
        rw [if_neg (fun q => by omega)]
        exact hn p (by omega) q2
      · show (if (A.last : Int) + 1 = (A.last : Int) + 1 ∧ p = k then some (f, P.wr k) else B.pg _ p).isSome = P.pr p
        by_cases e : p = k
        · rw [if_pos ⟨rfl, e⟩, e, hb]; rfl
        · rw [if_neg (fun q => e q.2)]
          exact hpr p (by omega)
      · by_cases e : j = k
        · rw [e]
          intro _
          exact ⟨f, a1', a2, a3, a4⟩
        · exact hrd j (by omega)

def Abs.admitCode (A : Abs) (P : Pic) : Int := if 4 ≤ A.cnt then 2 else if A.free < P.frames then 3 else 0

/-- What becomes of a machine. -/
def Abs.Admits (A : Abs) (P : Pic) (A' : Abs) : Prop := (A.admitCode P = 0 → ∃ B, Adm P A.created ((A.last : Int) + 1) 64 B ∧ A' = B.rooted ((A.last : Int) + 1) P.root) ∧ (A.admitCode P ≠ 0 → A' = A)

theorem absAdmit {w : World} {mb : Nat} {own : Nat → Prop} {A : Abs} (h : Rep w mb own A) (P : Pic) (hP : P.Good) (hl : A.last < 1000000000000000000) :
    Calls Tryz.prog 48 #[pt mb, .agg (picV P)] w fun e w' => e = .returned (.tuple #[.int .i64 (if A.admitCode P = 0 then A.last + 1 else 0), .int .i64 (A.admitCode P)]) ∧ ∃ own' A', Rep w' mb own' A' ∧ Left w w' own own' ∧ A.Admits P A' := by
  obtain ⟨S, H, hM, hI, hS, ho⟩ := h
  have hl' : S.last < 1000000000000000000 := by rw [← hS.last]; exact hl
  by_cases h1 : 4 ≤ A.cnt
  · have hc : A.admitCode P = 2 := by simp [Abs.admitCode, h1]
    refine (admitMany_any w mb S hM P (by rw [← hS.cnt]; exact h1) hI.c4).mono ?_
    rintro e w' ⟨rfl, hO⟩
    rw [hc]
    exact ⟨by simp, own, A, ⟨S, H, hM.nob hO, hI, hS, ho⟩, ⟨hO.of_nob, fun b q => Or.inl q⟩, ⟨fun q => absurd (hc.symm.trans q) (by simp), fun _ => rfl⟩⟩
  · by_cases h2 : A.free < P.frames
    · have hc : A.admitCode P = 3 := by simp [Abs.admitCode, h1, h2]
      refine (admitFull_any w mb S hM P (by rw [← hS.cnt]; omega) (by rw [← hS.free]; exact h2)).mono ?_
      rintro e w' ⟨rfl, hO⟩
      rw [hc]
      exact ⟨by simp, own, A, ⟨S, H, hM.nob hO, hI, hS, ho⟩, ⟨hO.of_nob, fun b q => Or.inl q⟩, ⟨fun q => absurd (hc.symm.trans q) (by simp), fun _ => rfl⟩⟩
    · have hc : A.admitCode P = 0 := by simp [Abs.admitCode, h1, h2]
      have hfr : P.frames ≤ A.free := by omega
      have hf1 : 1 ≤ S.M.free := by rw [← hS.free]; exact Nat.le_trans (P.frTo_mono (Nat.zero_le 64)) hfr
      obtain ⟨i, hi⟩ := Mm.first_some hf1
      have hc4 : S.cnt < 4 := by rw [← hS.cnt]; omega
      obtain ⟨hg, _, _⟩ := sees_created hI hS hi hc4
      obtain ⟨H', B, b1, b2, b3, b4, b5, b6, b7⟩ := admit_pure hI hS P hi hc4 hfr 64 (Nat.le_refl _)
      refine (admitGood_any w mb S hM P i hc4 (by rw [← hS.free]; exact hfr) hi hg hl' hP.w b7).mono ?_
      rintro e w' ⟨rfl, hM', hO⟩
      rw [hc]
      have eS : S.admitted i P.root (P.memTo i (S.M.take i) 64) = ((S.created i).withM (P.memTo i (S.M.take i) 64)).rooted ((A.last : Int) + 1) P.root := by
        simp only [MS.admitted, MS.rooted, MS.withM, MS.created, hS.last]
        congr 1
        funext j
        split <;> rfl
      rw [eS] at hM'
      refine ⟨by rw [hS.last]; simp, _, B.rooted ((A.last : Int) + 1) P.root, ⟨_, H', hM', ⟨b1.ok, b1.full, b1.gpos, b1.coh, b1.gl, b1.c4, ?_⟩, ⟨b2.n, b2.free, b2.cnt, b2.last, b2.kn, b2.has, b2.pg, b2.non, b2.wd, ?_⟩, fun _ => Iff.rfl⟩, ⟨own_only ho hO, fun b q => Or.inl ((ho b).2 q)⟩, ⟨fun _ => ⟨B, b3, rfl⟩, fun q => absurd hc q⟩⟩
      · intro g r q
        show -1 ≤ (if g = (A.last : Int) + 1 then P.root else _) ∧ (if g = (A.last : Int) + 1 then P.root else _) < 64
        split
        · exact ⟨hP.r0, hP.r1⟩
        · exact b1.rt q
      · intro g r q
        show (if g = (A.last : Int) + 1 then P.root else B.rt g) = (if g = (A.last : Int) + 1 then P.root else _)
        split
        · rfl
        · exact b2.rt g r q

/-! Create. -/
theorem zeroPic_frTo (x : Int) (k : Nat) : (zeroPic x).frTo k = 1 := by
  induction k with
  | zero => rfl
  | succ k ih => simpa [Pic.frTo, zeroPic] using ih
theorem zeroPic_adm {x : Int} {A : Abs} {g : Int} : ∀ {k : Nat} {B : Abs}, Adm (zeroPic x) A g k B → B = A
  | 0, _, h => h
  | k + 1, _, ⟨B, h, _, h2⟩ => by rw [h2 rfl]; exact zeroPic_adm h
theorem created_rooted (A : Abs) : A.created.rooted ((A.last : Int) + 1) (-1) = A.created := by
  simp only [Abs.rooted, Abs.created]
  congr 1
  funext j
  split <;> rfl

theorem absCreate {w : World} {mb : Nat} {own : Nat → Prop} {A : Abs} (h : Rep w mb own A) (hl : A.last < 1000000000000000000) :
    Calls Tryz.prog 19 #[pt mb] w fun e w' => ∃ own' A', e = .returned (.tuple #[.int .i64 (if A.createCode = 0 then A.last + 1 else 0), .int .i64 A.createCode]) ∧ Rep w' mb own' A' ∧ Left w w' own own' ∧ A' = if A.createCode = 0 then A.created else A := by
  have hc : A.admitCode (zeroPic (-1)) = A.createCode := by
    simp only [Abs.admitCode, Abs.createCode, Pic.frames, zeroPic_frTo, Nat.lt_one_iff]
  have := create_by (absAdmit h (zeroPic (-1)) ⟨by simp [zeroPic], by simp [zeroPic], fun _ _ _ _ => by simp [zeroPic]⟩ hl)
  refine this.mono ?_
  rintro e w' ⟨rfl, own', A', h1, h2, h3, h4⟩
  rw [hc] at h3 h4
  refine ⟨own', A', by rw [hc], h1, h2, ?_⟩
  by_cases q : A.createCode = 0
  · obtain ⟨B, b1, b2⟩ := h3 q
    rw [if_pos q, b2, zeroPic_adm b1]
    exact created_rooted A
  · rw [if_neg q]
    exact h4 q
end Go.Proofs.YtfcepnhknmbaaaaGreat
