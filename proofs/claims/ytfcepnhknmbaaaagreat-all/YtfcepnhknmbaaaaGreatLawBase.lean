/- A machine of the program beside the document's ('Duo'), and what a pair of calls leaves. -/
import Derived.Test.YtfcepnhknmbaaaaGreatRefAgree
import Derived.Test.YtfcepnhknmbaaaaGreatAbsAdmit
namespace Go.Proofs.YtfcepnhknmbaaaaGreat
open Go.RowKit Go.Deep

structure Duo (w : World) (mb rb : Nat) (oa : Nat → Prop) (A : Abs) (R : RS) (psi : Int → Nat) (c : Nat) : Prop where
  rep : Rep w mb oa A
  ref : Refm w rb R
  ag : Agree A R psi
  dis : ∀ b, oa b → ¬ R.own rb b
  n64 : R.n ≤ 64
  kn : A.kn ≤ 70 * c
  last : R.last ≤ c
  made : R.made ≤ 70 * c

def DuoAt (w : World) (mb rb : Nat) (own : Nat → Prop) (c : Nat) : Prop := ∃ oa A R psi, Duo w mb rb oa A R psi c ∧ ∀ b, own b ↔ oa b ∨ R.own rb b

theorem Duo.mono {w : World} {mb rb : Nat} {oa : Nat → Prop} {A : Abs} {R : RS} {psi : Int → Nat} {c c' : Nat} (h : Duo w mb rb oa A R psi c) (hc : c ≤ c') : Duo w mb rb oa A R psi c' :=
  ⟨h.rep, h.ref, h.ag, h.dis, h.n64, Nat.le_trans h.kn (by omega), Nat.le_trans h.last hc, Nat.le_trans h.made (by omega)⟩
theorem DuoAt.mono {w : World} {mb rb : Nat} {own : Nat → Prop} {c c' : Nat} (h : DuoAt w mb rb own c) (hc : c ≤ c') : DuoAt w mb rb own c' := by
  obtain ⟨oa, A, R, psi, h1, h2⟩ := h
  exact ⟨oa, A, R, psi, h1.mono hc, h2⟩
theorem Duo.only {w w' : World} {mb rb : Nat} {oa T : Nat → Prop} {A : Abs} {R : RS} {psi : Int → Nat} {c : Nat} (h : Duo w mb rb oa A R psi c) (o : Only T w w') (h1 : ∀ b, oa b → ¬ T b) (h2 : ∀ b, R.own rb b → ¬ T b) : Duo w' mb rb oa A R psi c :=
  ⟨h.rep.only o h1, h.ref.only o h2, h.ag, h.dis, h.n64, h.kn, h.last, h.made⟩
theorem DuoAt.only {w w' : World} {mb rb : Nat} {own T : Nat → Prop} {c : Nat} (h : DuoAt w mb rb own c) (o : Only T w w') (h1 : ∀ b, own b → ¬ T b) : DuoAt w' mb rb own c := by
  obtain ⟨oa, A, R, psi, q1, q2⟩ := h
  exact ⟨oa, A, R, psi, q1.only o (fun b hb => h1 b ((q2 b).2 (Or.inl hb))) (fun b hb => h1 b ((q2 b).2 (Or.inr hb))), q2⟩
theorem DuoAt.own_lt {w : World} {mb rb : Nat} {own : Nat → Prop} {c : Nat} (h : DuoAt w mb rb own c) {b : Nat} (hb : own b) : b < w.heap.size := by
  obtain ⟨oa, A, R, psi, q1, q2⟩ := h
  rcases (q2 b).1 hb with q | q
  · exact q1.rep.own_lt q
  · exact q1.ref.own_lt q

theorem Left.refl (w : World) (own : Nat → Prop) : Left w w own own := ⟨Only.refl _ _, fun _ h => Or.inl h⟩

section
variable {w w0 w1 w2 : World} {mb rb : Nat} {oa oa' own : Nat → Prop} {A A' : Abs} {R R' : RS} {psi psi' : Int → Nat} {c : Nat}

/-- Behind the program's call. -/
theorem Duo.mid (h : Duo w mb rb oa A R psi c) (l1 : Left w w1 oa oa') : Refm w1 rb R ∧ ∀ b, oa' b → ¬ R.own rb b := by
  refine ⟨h.ref.only l1.only (fun b hb q => h.dis b q hb), fun b hb q => ?_⟩
  rcases l1.ext b hb with e | e
  · exact h.dis b e q
  · have := h.ref.own_lt q
    omega

/-- A block that the law itself has laid. -/
theorem Duo.box (h : Duo w mb rb oa A R psi c) (l1 : Left w0 w1 oa oa') {a : Addr} {v : Value} (ha : w.heap.size ≤ a.block) (hc : w0.cell? a = some v) : w1.cell? a = some v :=
  l1.only.keep (fun q => by have := h.rep.own_lt q; omega) hc

theorem Duo.done (h : Duo w mb rb oa A R psi c) (hown : ∀ b, own b ↔ oa b ∨ R.own rb b) (o0 : Only Nob w w0) (l1 : Left w0 w1 oa oa') (rep1 : Rep w1 mb oa' A') (ref2 : Refm w2 rb R') (o2 : Only (R.own rb) w1 w2)
    (e2 : ∀ b, R'.own rb b → R.own rb b ∨ w1.heap.size ≤ b) (ag : Agree A' R' psi') (hn : R'.n = R.n) (hk : A'.kn ≤ 70 * (c + 1)) (hl : R'.last ≤ c + 1) (hm : R'.made ≤ 70 * (c + 1)) : ∃ own', DuoAt w2 mb rb own' (c + 1) ∧ Left w w2 own own' := by
  have h0 := h.only o0 (fun _ _ q => q) (fun _ _ q => q)
  obtain ⟨r1, d1⟩ := h0.mid l1
  have s0 := o0.size
  have s1 := l1.only.size
  refine ⟨fun b => oa' b ∨ R'.own rb b, ⟨oa', A', R', psi', ⟨rep1.only o2 d1, ref2, ag, fun b hb q => ?_, by rw [hn]; exact h.n64, hk, hl, hm⟩, fun _ => Iff.rfl⟩, ⟨?_, fun b hb => ?_⟩⟩
  · rcases e2 b q with e | e
    · exact d1 b hb e
    · have := rep1.own_lt hb
      omega
  · refine (o0.of_nob (S := own)).after ((l1.only.mono (fun k _ q => ?_) : Only own w0 w1).after o2 (fun b _ q => (hown b).2 (Or.inr q))) (fun b _ q => q)
    exact (hown k).2 (Or.inl q)
  · rcases hb with q | q
    · rcases l1.ext b q with e | e
      · exact Or.inl ((hown b).2 (Or.inl e))
      · exact Or.inr (by omega)
    · rcases e2 b q with e | e
      · exact Or.inl ((hown b).2 (Or.inr e))
      · exact Or.inr (by omega)
end

theorem Rep.non {w : World} {mb : Nat} {own : Nat → Prop} {A : Abs} (h : Rep w mb own A) {g : Int} {p : Nat} (hg : A.has g = false) : A.pg g p = none := by
  obtain ⟨S, H, _, _, hS, _⟩ := h
  exact hS.non g p (hS.none hg)

theorem wrote_own {R : RS} {rb b k : Nat} {v : Int} {x : Nat} : (R.wrote b k v).own rb x ↔ R.own rb x := Iff.rfl
theorem set_own {R : RS} {rb gb p : Nat} {o : Option Nat} {b : Bool} {x : Nat} (h : (R.set gb p o b).own rb x) : R.own rb x ∨ o = some x := by
  rcases h with h | h | h | h
  · exact Or.inl (Or.inl h)
  · exact Or.inl (Or.inr (Or.inl h))
  · exact Or.inl (Or.inr (Or.inr (Or.inl (set_isGs.1 h))))
  · exact (set_isPg h).imp (fun q => Or.inr (Or.inr (Or.inr q))) id

def opV (k on a b c d : Int) (W : Bool) (S : Value) : Value := .agg #[.int .i64 k, .int .i64 on, .int .i64 a, .int .i64 b, .int .i64 c, .int .i64 d, .bool W, S]
def mcV (mb rb : Nat) : Value := .agg #[pt mb, pt rb]
end Go.Proofs.YtfcepnhknmbaaaaGreat
