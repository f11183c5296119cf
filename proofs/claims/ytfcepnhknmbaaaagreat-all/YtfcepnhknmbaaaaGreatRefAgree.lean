/- The program's machine and the document's agree, and go on agreeing behind each call: codes and states. -/
import Derived.Test.YtfcepnhknmbaaaaGreatRefCount
namespace Go.Proofs.YtfcepnhknmbaaaaGreat
open Go.RowKit Go.Deep

theorem uniq_of_nodup {α β : Type} {f : α → β} : ∀ {L : List α}, (L.map f).Nodup → ∀ a ∈ L, ∀ b ∈ L, f a = f b → a = b
  | x :: L, h, a, ha, b, hb, e => by
    simp only [List.map_cons] at h
    obtain ⟨h1, h2⟩ := List.nodup_cons.1 h
    rcases List.mem_cons.1 ha with ea | ha' <;> rcases List.mem_cons.1 hb with eb | hb'
    · rw [ea, eb]
    · exact (h1 (List.mem_map.2 ⟨b, hb', by rw [← e, ea]⟩)).elim
    · exact (h1 (List.mem_map.2 ⟨a, ha', by rw [e, eb]⟩)).elim
    · exact uniq_of_nodup h2 a ha' b hb' e

section
variable {A : Abs} {R : RS} {psi : Int → Nat}

theorem Agree.found (h : Agree A R psi) {g : Int} {G : RG} (hf : findFrom R.L g = some G) : G ∈ R.L ∧ G.N = g ∧ A.has g = true := by
  obtain ⟨h1, h2⟩ := findFrom_mem hf
  exact ⟨h1, h2, (h.has g).2 ⟨G, h1, h2⟩⟩
theorem Agree.lost (h : Agree A R psi) {g : Int} (hf : findFrom R.L g = none) : A.has g = false := by
  cases q : A.has g with
  | false => rfl
  | true =>
    obtain ⟨G, hG, e⟩ := (h.has g).1 q
    have := List.find?_eq_none.1 hf G hG
    simp [e] at this

theorem Agree.tick (h : Agree A R psi) : Agree A.tick R psi := ⟨h.n, h.last, h.cnt, h.nd, h.pos, h.has, h.pg, h.idI, h.idB, h.psI, h.wd, h.rt⟩
theorem Agree.ticks {A' : Abs} (h : Agree A R psi) (e : A' = A ∨ A' = A.tick) : Agree A' R psi := by
  rcases e with rfl | rfl
  · exact h
  · exact h.tick

theorem Agree.fresh (n : Nat) : Agree (Abs.fresh n) (RS.fresh n) (fun _ => 0) :=
  ⟨rfl, rfl, rfl, List.nodup_nil, fun _ h => (by cases h), fun g => ⟨fun q => (by cases q), fun ⟨_, q, _⟩ => (by cases q)⟩, fun _ h => (by cases h), fun _ _ ⟨_, q, _⟩ => (by cases q), fun _ ⟨_, q, _⟩ => (by cases q), fun _ _ ⟨_, q, _⟩ => (by cases q), fun _ ⟨_, q, _⟩ => (by cases q), fun _ h => (by cases h)⟩

/-! The codes. -/
theorem Agree.createCode (h : Agree A R psi) (hf : R.free = A.free) : R.createCode = A.createCode := by
  simp only [RS.createCode, Abs.createCode, h.cnt, hf]
  by_cases e : A.free = 0
  · rw [if_pos e, if_pos (show (A.free : Int) < 1 by omega)]
  · rw [if_neg e, if_neg (show ¬ (A.free : Int) < 1 by omega)]

theorem isPg_in {p : Int} (h : ¬ (p < 0 ∨ 64 ≤ p)) : isPg p = true := by simp only [isPg]; rw [decide_eq_true_iff]; omega
theorem isPg_out {p : Int} (h : p < 0 ∨ 64 ≤ p) : isPg p = false := by simp only [isPg]; rw [decide_eq_false_iff_not]; omega
theorem isAd_in {p : Int} (h : ¬ (p < 0 ∨ 512 ≤ p)) : isAd p = true := by simp only [isAd]; rw [decide_eq_true_iff]; omega
theorem isAd_out {p : Int} (h : p < 0 ∨ 512 ≤ p) : isAd p = false := by simp only [isAd]; rw [decide_eq_false_iff_not]; omega

theorem Agree.destroyCode (h : Agree A R psi) (g : Int) : R.destroyCode g = if A.has g then 0 else 4 := by
  simp only [RS.destroyCode]
  cases hf : findFrom R.L g with
  | none => rw [h.lost hf]; rfl
  | some G => rw [(h.found hf).2.2]; rfl

theorem Agree.mapCode (h : Agree A R psi) (hf : R.free = A.free) (g p : Int) : R.mapCode g p = A.mapCode g p := by
  simp only [RS.mapCode, Abs.mapCode]
  cases hq : findFrom R.L g with
  | none => simp [Abs.check, h.lost hq]
  | some G =>
    obtain ⟨hG, hN, hh⟩ := h.found hq
    by_cases hp : p < 0 ∨ 64 ≤ p
    · simp [Abs.check, hh, isPg_out hp, hp]
    · have e1 : A.check g (isPg p) = 0 := by simp [Abs.check, hh, isPg_in hp]
      have hpg := h.pg G hG p.toNat (by omega)
      rw [hN] at hpg
      simp only [e1, hp, if_false, ne_eq, not_true_eq_false]
      cases hx : G.P p.toNat with
      | some b => rw [hx] at hpg; simp [hpg]
      | none =>
        rw [hx] at hpg
        have hg := h.grp hG (k := p.toNat / 8) (by omega)
        rw [hN] at hg
        simp only [hpg, Option.map_none, Option.isSome_none, Bool.false_eq_true, if_false, hf, Abs.need, RG.takes, hg]
        rcases Bool.eq_false_or_eq_true (A.grp g (p.toNat / 8)) with e0 | e0
        rotate_left
        · simp only [e0, Bool.false_eq_true, if_false]
          by_cases e : A.free < 2
          · rw [if_pos e, if_pos (by omega)]
          · rw [if_neg e, if_neg (by omega)]
        · simp only [e0, if_true]
          by_cases e : A.free < 1
          · rw [if_pos e, if_pos (by omega)]
          · rw [if_neg e, if_neg (by omega)]

theorem Agree.unmapCode (h : Agree A R psi) (g p : Int) : R.unmapCode g p = A.unmapCode g p := by
  simp only [RS.unmapCode, Abs.unmapCode]
  cases hq : findFrom R.L g with
  | none => simp [Abs.check, h.lost hq]
  | some G =>
    obtain ⟨hG, hN, hh⟩ := h.found hq
    by_cases hp : p < 0 ∨ 64 ≤ p
    · simp [Abs.check, hh, isPg_out hp, hp]
    · have e1 : A.check g (isPg p) = 0 := by simp [Abs.check, hh, isPg_in hp]
      have hpg := h.pg G hG p.toNat (by omega)
      rw [hN] at hpg
      simp only [e1, hp, if_false, ne_eq, not_true_eq_false]
      cases hx : G.P p.toNat with
      | some b => rw [hx] at hpg; simp [hpg]
      | none => rw [hx] at hpg; simp [hpg]

theorem Agree.readAt (h : Agree A R psi) (g a : Int) : R.readAt g a = A.readAt g a := by
  simp only [RS.readAt, Abs.readAt]
  cases hq : findFrom R.L g with
  | none => simp [Abs.check, h.lost hq]
  | some G =>
    obtain ⟨hG, hN, hh⟩ := h.found hq
    by_cases hp : a < 0 ∨ 512 ≤ a
    · simp [Abs.check, hh, isAd_out hp, hp]
    · have e1 : A.check g (isAd a) = 0 := by simp [Abs.check, hh, isAd_in hp]
      have hpg := h.pg G hG (a.toNat / 8) (by omega)
      rw [hN] at hpg
      simp only [e1, hp, if_false, ne_eq, not_true_eq_false]
      cases hx : G.P (a.toNat / 8) with
      | some b =>
        rw [hx] at hpg
        simp only [hpg, Option.map_some]
        rw [h.wd b ⟨G, hG, _, by omega, hx⟩ _ (by omega)]
      | none => rw [hx] at hpg; simp [hpg]

theorem Agree.writeCode (h : Agree A R psi) (g a v : Int) : R.writeCode g a v = A.writeCode g a v := by
  simp only [RS.writeCode, Abs.writeCode]
  cases hq : findFrom R.L g with
  | none => simp [Abs.check, h.lost hq]
  | some G =>
    obtain ⟨hG, hN, hh⟩ := h.found hq
    by_cases hp : a < 0 ∨ 512 ≤ a
    · simp [Abs.check, hh, isAd_out hp, hp]
    · have e1 : A.check g (isAd a) = 0 := by simp [Abs.check, hh, isAd_in hp]
      have hpg := h.pg G hG (a.toNat / 8) (by omega)
      rw [hN] at hpg
      simp only [e1, hp, if_false, ne_eq, not_true_eq_false]
      cases hx : G.P (a.toNat / 8) with
      | some b => rw [hx] at hpg; simp [hpg]
      | none => rw [hx] at hpg; simp [hpg]

/-! The states. -/
theorem Agree.created (h : Agree A R psi) (hnon : ∀ g p, A.has g = false → A.pg g p = none) (v : Value) (gb : Nat) : Agree A.created (R.created v gb) psi := by
  have hnew : A.has ((A.last : Int) + 1) = false := by
    cases q : A.has ((A.last : Int) + 1) with
    | false => rfl
    | true =>
      obtain ⟨G, hG, e⟩ := (h.has _).1 q
      have := (h.pos G hG).2
      have := h.last
      omega
  have isP : ∀ b, (R.created v gb).isPg b → R.isPg b := by
    rintro b ⟨g, hg, p, hp, e⟩
    rcases List.mem_append.1 hg with q | q
    · exact ⟨g, q, p, hp, e⟩
    · rw [List.mem_singleton] at q; subst q; cases e
  refine ⟨h.n, by simp [Abs.created, RS.created, h.last], by simp [Abs.created, RS.created, h.cnt], ?_, fun G hG => ?_, fun g => ?_, fun G hG p hp => ?_, fun b b' hb hb' => h.idI b b' (isP b hb) (isP b' hb'), fun b hb => h.idB b (isP b hb), fun b b' hb hb' => h.psI b b' (isP b hb) (isP b' hb'), fun b hb => h.wd b (isP b hb), fun G hG => ?_⟩
  · show ((R.L ++ [newG (R.last + 1) gb]).map fun g => g.N).Nodup
    rw [List.map_append, List.nodup_append]
    refine ⟨h.nd, by simp, fun a ha b hb e => ?_⟩
    obtain ⟨G, hG, rfl⟩ := List.mem_map.1 ha
    have := (h.pos G hG).2
    simp [newG] at hb
    omega
  · show 1 ≤ G.N ∧ G.N ≤ ((R.last + 1 : Nat) : Int)
    rcases List.mem_append.1 hG with q | q
    · have := h.pos G q; omega
    · rw [List.mem_singleton] at q; subst q; simp [newG]; omega
  · simp only [Abs.created]
    by_cases e : g = (A.last : Int) + 1
    · rw [if_pos e]
      refine ⟨fun _ => ⟨newG (R.last + 1) gb, List.mem_append.2 (Or.inr (by simp)), by simp [newG, e, h.last]⟩, fun _ => rfl⟩
    · rw [if_neg e, h.has]
      constructor
      · rintro ⟨G, hG, e⟩
        exact ⟨G, List.mem_append.2 (Or.inl hG), e⟩
      · rintro ⟨G, hG, e2⟩
        rcases List.mem_append.1 hG with q | q
        · exact ⟨G, q, e2⟩
        · rw [List.mem_singleton] at q; subst q
          exact (e (by rw [← e2, h.last]; rfl)).elim
  · rcases List.mem_append.1 hG with q | q
    · exact h.pg G q p hp
    · rw [List.mem_singleton] at q; subst q
      show A.pg ((R.last : Int) + 1) p = none
      rw [← h.last]
      exact hnon _ _ hnew
  · show (if G.N = (A.last : Int) + 1 then -1 else A.rt G.N) = G.root ∧ _
    rcases List.mem_append.1 hG with q | q
    · have := (h.pos G q).2
      have e := h.last
      rw [if_neg (by omega)]
      exact h.rt G q
    · rw [List.mem_singleton] at q; subst q
      rw [if_pos (by rw [h.last]; rfl)]
      exact ⟨rfl, by show (-1 : Int) ≤ -1; omega, by show (-1 : Int) < 64; omega⟩

theorem Agree.dropped (h : Agree A R psi) {g : Int} {G : RG} (hf : findFrom R.L g = some G) (v : Value) (fr : Nat) : Agree (A.destroyed g fr) (R.dropped v g) psi := by
  have mem : ∀ {G : RG}, G ∈ keepL R.L g ↔ G ∈ R.L ∧ G.N ≠ g := by
    intro G
    simp [keepL]
  obtain ⟨hG, hN, hh⟩ := h.found hf
  refine ⟨h.n, h.last, ?_, ?_, fun G hG => h.pos G (mem.1 hG).1, fun g' => ?_, fun G hG p hp => ?_, fun b b' hb hb' => h.idI b b' (dropped_isPg hb) (dropped_isPg hb'), fun b hb => h.idB b (dropped_isPg hb), fun b b' hb hb' => h.psI b b' (dropped_isPg hb) (dropped_isPg hb'), fun b hb => h.wd b (dropped_isPg hb), fun G hG => h.rt G (mem.1 hG).1⟩
  · show A.cnt - 1 = (keepL R.L g).length
    rw [h.cnt]
    have key : ∀ {L : List RG}, (L.map fun g => g.N).Nodup → (∃ G ∈ L, G.N = g) → (keepL L g).length + 1 = L.length := by
      intro L
      induction L with
      | nil => rintro _ ⟨G, hG, _⟩; cases hG
      | cons x L ih =>
        intro hn hx
        simp only [List.map_cons] at hn
        obtain ⟨h1, h2⟩ := List.nodup_cons.1 hn
        by_cases e : x.N = g
        · have hk : keepL L g = L := by
            apply List.filter_eq_self.2
            intro a ha
            simp only [bne_iff_ne, ne_eq]
            intro ea
            exact h1 (List.mem_map.2 ⟨a, ha, by rw [ea, e]⟩)
          have h3 : keepL (x :: L) g = keepL L g := by simp only [keepL, List.filter_cons]; rw [if_neg (by simp [e])]
          rw [h3, hk, List.length_cons]
        · have := ih h2 (by
            obtain ⟨G, hG, eG⟩ := hx
            rcases List.mem_cons.1 hG with rfl | q
            · exact (e eG).elim
            · exact ⟨G, q, eG⟩)
          simp only [keepL, List.filter_cons, List.length_cons] at this ⊢
          rw [if_pos (by simpa using e), List.length_cons]
          omega
    have := key h.nd ⟨G, hG, hN⟩
    omega
  · exact h.nd.sublist (List.filter_sublist.map _)
  · simp only [Abs.destroyed]
    by_cases e : g' = g
    · rw [if_pos e]
      constructor
      · intro q; cases q
      · rintro ⟨G, hG, e2⟩
        exact ((mem.1 hG).2 (by rw [e2, e])).elim
    · rw [if_neg e, h.has]
      constructor
      · rintro ⟨G, hG, e2⟩
        exact ⟨G, mem.2 ⟨hG, by rw [e2]; exact e⟩, e2⟩
      · rintro ⟨G, hG, e2⟩
        exact ⟨G, (mem.1 hG).1, e2⟩
  · simp only [Abs.destroyed]
    obtain ⟨q1, q2⟩ := mem.1 hG
    rw [if_neg q2]
    exact h.pg G q1 p hp

theorem setAt_N (gb p : Nat) (o : Option Nat) (b : Bool) (g : RG) : (setAt gb p o b g).N = g.N := by
  simp only [setAt]; split <;> rfl
theorem setAt_root (gb p : Nat) (o : Option Nat) (b : Bool) (g : RG) : (setAt gb p o b g).root = g.root := by
  simp only [setAt]; split <;> rfl
theorem setAt_at {G : RG} (p : Nat) (o : Option Nat) (b : Bool) : setAt G.gb p o b G = G.set p o b := by simp [setAt]
theorem setAt_ne {gb : Nat} {G : RG} (p : Nat) (o : Option Nat) (b : Bool) (h : G.gb ≠ gb) : setAt gb p o b G = G := by simp [setAt, h]

theorem Agree.unmapped (h : Agree A R psi) {w : World} {rb : Nat} (hR : Refm w rb R) {G : RG} (hG : G ∈ R.L) (p fr : Nat) : Agree (A.unmapped G.N p fr) (R.set G.gb p none false) psi := by
  have isP : ∀ b, (R.set G.gb p none false).isPg b → R.isPg b := fun b hb => by
    rcases set_isPg hb with q | q
    · exact q
    · cases q
  refine ⟨h.n, h.last, by simp [Abs.unmapped, RS.set, h.cnt], ?_, fun G' hG' => ?_, fun g' => ?_, fun G' hG' p' hp' => ?_, fun b b' hb hb' => h.idI b b' (isP b hb) (isP b' hb'), fun b hb => h.idB b (isP b hb), fun b b' hb hb' => h.psI b b' (isP b hb) (isP b' hb'), fun b hb => h.wd b (isP b hb), fun G' hG' => by
    obtain ⟨G0, hG0, rfl⟩ := List.mem_map.1 hG'
    rw [setAt_N, setAt_root]
    exact h.rt G0 hG0⟩
  · show ((R.L.map (setAt G.gb p none false)).map fun g => g.N).Nodup
    rw [List.map_map]
    simpa [Function.comp_def, setAt_N] using h.nd
  · obtain ⟨G0, hG0, rfl⟩ := List.mem_map.1 hG'
    rw [setAt_N]
    exact h.pos G0 hG0
  · show A.has g' = true ↔ _
    rw [h.has]
    constructor
    · rintro ⟨G0, hG0, e⟩
      exact ⟨_, List.mem_map.2 ⟨G0, hG0, rfl⟩, by rw [setAt_N]; exact e⟩
    · rintro ⟨G', hG', e⟩
      obtain ⟨G0, hG0, rfl⟩ := List.mem_map.1 hG'
      exact ⟨G0, hG0, by rw [setAt_N] at e; exact e⟩
  · obtain ⟨G0, hG0, rfl⟩ := List.mem_map.1 hG'
    rw [setAt_N]
    have h0 := h.pg G0 hG0 p' hp'
    simp only [Abs.unmapped]
    by_cases e : G0.gb = G.gb
    · have e2 : G0 = G := uniq_of_nodup hR.nd G0 hG0 G hG e
      subst e2
      rw [setAt_at]
      simp only [RG.set]
      by_cases e3 : p' = p
      · rw [if_pos ⟨trivial, e3⟩]; simp only [if_pos e3]; rfl
      · rw [if_neg (fun q => e3 q.2)]; simp only [if_neg e3]; exact h0
    · rw [setAt_ne _ _ _ e, if_neg (fun q => e (by rw [uniq_of_nodup h.nd G0 hG0 G hG q.1]))]
      exact h0

theorem Agree.mapped (h : Agree A R psi) {w : World} {rb : Nat} (hR : Refm w rb R) {G : RG} (hG : G ∈ R.L) {p f pb : Nat} {b : Bool} (hf : A.New f) (hpb : w.heap.size ≤ pb) :
    Agree (A.mapped G.N p f b) ((R.paged pb).set G.gb p (some pb) b) (fun x => if x = (R.made : Int) + 1 then f else psi x) := by
  have ne_pb : ∀ x, R.isPg x → x ≠ pb := fun x hx => by have := isPg_lt hR hx; omega
  have oldId : ∀ x, R.isPg x → ((R.paged pb).set G.gb p (some pb) b).Id x = R.Id x := fun x hx => by
    show (if x = pb then (R.made : Int) + 1 else R.Id x) = R.Id x
    rw [if_neg (ne_pb x hx)]
  have newId : ((R.paged pb).set G.gb p (some pb) b).Id pb = (R.made : Int) + 1 := by
    show (if pb = pb then (R.made : Int) + 1 else R.Id pb) = _
    rw [if_pos rfl]
  have oldPsi : ∀ x, R.isPg x → (if R.Id x = (R.made : Int) + 1 then f else psi (R.Id x)) = psi (R.Id x) := fun x hx => by
    have := h.idB x hx
    rw [if_neg (by omega)]
  have fresh : ∀ x, R.isPg x → psi (R.Id x) ≠ f := fun x hx e => by
    obtain ⟨G', hG', p', hp', e'⟩ := hx
    refine hf.2 G'.N p' (G'.Wr p') hp' ?_
    rw [h.pg G' hG' p' hp', e', ← e]
    rfl
  have isP : ∀ x, ((R.paged pb).set G.gb p (some pb) b).isPg x → R.isPg x ∨ x = pb := fun x hx => by
    rcases set_isPg hx with q | q
    · exact Or.inl q
    · injection q with q; exact Or.inr q.symm
  refine ⟨h.n, h.last, by simp [Abs.mapped, RS.set, RS.paged, h.cnt], ?_, fun G' hG' => ?_, fun g' => ?_, fun G' hG' p' hp' => ?_, fun x x' hx hx' e => ?_, fun x hx => ?_, fun x x' hx hx' e => ?_, fun x hx k hk => ?_, fun G' hG' => by
    obtain ⟨G0, hG0, rfl⟩ := List.mem_map.1 hG'
    rw [setAt_N, setAt_root]
    exact h.rt G0 hG0⟩
  · show ((R.L.map (setAt G.gb p (some pb) b)).map fun g => g.N).Nodup
    rw [List.map_map]
    simpa [Function.comp_def, setAt_N] using h.nd
  · obtain ⟨G0, hG0, rfl⟩ := List.mem_map.1 hG'
    rw [setAt_N]
    exact h.pos G0 hG0
  · show A.has g' = true ↔ _
    rw [h.has]
    constructor
    · rintro ⟨G0, hG0, e⟩
      exact ⟨_, List.mem_map.2 ⟨G0, hG0, rfl⟩, by rw [setAt_N]; exact e⟩
    · rintro ⟨G', hG', e⟩
      obtain ⟨G0, hG0, rfl⟩ := List.mem_map.1 hG'
      exact ⟨G0, hG0, by rw [setAt_N] at e; exact e⟩
  · obtain ⟨G0, hG0, rfl⟩ := List.mem_map.1 hG'
    have hG0 : G0 ∈ R.L := hG0
    rw [setAt_N]
    have h0 := h.pg G0 hG0 p' hp'
    have h1 : (G0.P p').map (fun b' => (psi (R.Id b'), G0.Wr p')) = (G0.P p').map fun b' => (if ((R.paged pb).set G.gb p (some pb) b).Id b' = (R.made : Int) + 1 then f else psi (((R.paged pb).set G.gb p (some pb) b).Id b'), G0.Wr p') := by
      cases q : G0.P p' with
      | none => rfl
      | some x =>
        have hx : R.isPg x := ⟨G0, hG0, p', hp', q⟩
        simp only [Option.map_some]
        rw [oldId x hx, oldPsi x hx]
    simp only [Abs.mapped]
    by_cases e : G0.gb = G.gb
    · have e2 : G0 = G := uniq_of_nodup hR.nd G0 hG0 G hG e
      subst e2
      rw [setAt_at]
      by_cases e3 : p' = p
      · rw [if_pos ⟨rfl, e3⟩]
        simp only [RG.set, if_pos e3, Option.map_some]
        rw [newId, if_pos rfl]
      · rw [if_neg (fun q => e3 q.2)]
        simp only [RG.set, if_neg e3]
        rw [h0]
        exact h1
    · rw [setAt_ne _ _ _ e, if_neg (fun q => e (by rw [uniq_of_nodup h.nd G0 hG0 G hG q.1])), h0]
      exact h1
  · rcases isP x hx with q | q <;> rcases isP x' hx' with q' | q'
    · rw [oldId x q, oldId x' q'] at e
      exact h.idI x x' q q' e
    · subst q'
      rw [oldId x q, newId] at e
      have := h.idB x q
      omega
    · subst q
      rw [newId, oldId x' q'] at e
      have := h.idB x' q'
      omega
    · rw [q, q']
  · show _ ≤ ((R.made + 1 : Nat) : Int)
    rcases isP x hx with q | q
    · rw [oldId x q]
      have := h.idB x q
      omega
    · subst q
      rw [newId]
      omega
  · rcases isP x hx with q | q <;> rcases isP x' hx' with q' | q'
    · rw [oldId x q, oldId x' q', oldPsi x q, oldPsi x' q'] at e
      exact h.psI x x' q q' e
    · subst q'
      rw [oldId x q, newId, oldPsi x q, if_pos rfl] at e
      exact (fresh x q e).elim
    · subst q
      rw [newId, oldId x' q', oldPsi x' q', if_pos rfl] at e
      exact (fresh x' q' e.symm).elim
    · rw [q, q']
  · show (if _ = f then (0 : Int) else A.wd _ k) = (if x = pb then (0 : Int) else R.Wd x k)
    rcases isP x hx with q | q
    · rw [oldId x q, oldPsi x q, if_neg (fresh x q), if_neg (ne_pb x q)]
      exact h.wd x q k hk
    · subst q
      rw [newId, if_pos rfl, if_pos rfl, if_pos rfl]

theorem Agree.wrote (h : Agree A R psi) {b : Nat} (hb : R.isPg b) (k : Nat) (v : Int) : Agree (A.wrote (psi (R.Id b)) k v) (R.wrote b k v) psi := by
  refine ⟨h.n, h.last, h.cnt, h.nd, h.pos, h.has, h.pg, h.idI, h.idB, h.psI, fun x hx k' hk' => ?_, h.rt⟩
  have hx : R.isPg x := hx
  show (if _ then v else _) = (if _ then v else _)
  by_cases e : x = b ∧ k' = k
  · rw [if_pos e, if_pos ⟨by rw [e.1]; rfl, e.2⟩]
  · rw [if_neg e, if_neg (fun q => e ⟨h.psI x b hx hb q.1, q.2⟩)]
    exact h.wd x hx k' hk'
end
end Go.Proofs.YtfcepnhknmbaaaaGreat
