/- A guest of the document's as it lies in memory, and as a picture. -/
import Derived.Test.YtfcepnhknmbaaaaGreatRefBase
import Derived.Test.YtfcepnhknmbaaaaGreatBytesM
namespace Go.Proofs.YtfcepnhknmbaaaaGreat
open Go.RowKit Go.Deep

/-- What a guest of the document's tells. -/
structure GPic (G : RG) (Wd : Nat → Nat → Int) (P : Pic) : Prop where
  root : G.root = P.root
  pr : ∀ p, p < 64 → P.pr p = (G.P p).isSome
  wr : ∀ p b, p < 64 → G.P p = some b → P.wr p = G.Wr p
  wd : ∀ p b, p < 64 → G.P p = some b → ∀ k, k < 8 → Wd b k = P.wd p k
  no : ∀ p, p < 64 → G.P p = none → P.wr p = false ∧ ∀ k, k < 8 → P.wd p k = 0

theorem GPic.same {G : RG} {Wd : Nat → Nat → Int} {P Q : Pic} (h : GPic G Wd P) (hs : P.Same Q) : GPic G Wd Q :=
  ⟨h.root.trans hs.root, fun p hp => (hs.pr p hp).symm.trans (h.pr p hp), fun p b hp e => (hs.wr p hp).symm.trans (h.wr p b hp e), fun p b hp e k hk => (h.wd p b hp e k hk).trans (hs.wd p k hp hk), fun p hp e => ⟨by rw [← hs.wr p hp]; exact (h.no p hp e).1, fun k hk => by rw [← hs.wd p k hp hk]; exact (h.no p hp e).2 k hk⟩⟩
theorem GPic.off {G : RG} {Wd : Nat → Nat → Int} {P : Pic} (h : GPic G Wd P) {p : Nat} (hp : p < 64) (e : P.pr p = false) : P.wr p = false ∧ ∀ k, k < 8 → P.wd p k = 0 := by
  rw [h.pr p hp] at e
  cases q : G.P p with
  | none => exact h.no p hp q
  | some b => rw [q] at e; cases e

def pgC (i : Int) (f : Nat → Int) (j : Nat) : Value := if j = 0 then .int .i64 i else .int .i64 (f (j - 1))

/-- A guest of the document's lies at its block; its pages at theirs. -/
structure GLie (w : World) (G : RG) (Wd : Nat → Nat → Int) : Prop where
  row : ∃ t, w.rowIs G.gb t 130 G.cell
  ps : ∀ p b, p < 64 → G.P p = some b → ∃ t i, w.rowIs b t 9 (pgC i (Wd b))

section
variable {w w' : World} {G : RG} {Wd : Nat → Nat → Int} {P : Pic}
theorem GLie.only {T : Nat → Prop} (h : GLie w G Wd) (o : Only T w w') (h1 : ¬ T G.gb) (h2 : ∀ p b, p < 64 → G.P p = some b → ¬ T b) : GLie w' G Wd := by
  obtain ⟨t, r⟩ := h.row
  refine ⟨⟨t, o.row r h1⟩, fun p b hp e => ?_⟩
  obtain ⟨t, i, r⟩ := h.ps p b hp e
  exact ⟨t, i, o.row r (h2 p b hp e)⟩
theorem GLie.nob (h : GLie w G Wd) (o : Only Nob w w') : GLie w' G Wd := h.only o (fun q => q) (fun _ _ _ _ q => q)
theorem GLie.page (h : GLie w G Wd) {p : Nat} (hp : p < 64) : w.cell? ⟨G.gb, 2 + p * 2, none⟩ = some (ptO (G.P p)) ∧ w.cell? ⟨G.gb, 2 + p * 2 + 1, none⟩ = some (.bool (G.Wr p)) := by
  obtain ⟨t, r⟩ := h.row
  exact ⟨by rw [r.cell (by omega), G.cellP], by rw [r.cell (by omega), G.cellW]⟩
theorem GLie.root (h : GLie w G Wd) : w.cell? ⟨G.gb, 1, none⟩ = some (.int .i64 G.root) := by
  obtain ⟨t, r⟩ := h.row
  exact r.cell (by omega)
theorem GLie.lt (h : GLie w G Wd) : G.gb < w.heap.size := by obtain ⟨t, r⟩ := h.row; exact r.lt
theorem GLie.pageLt (h : GLie w G Wd) {p b : Nat} (hp : p < 64) (e : G.P p = some b) : b < w.heap.size := by obtain ⟨t, i, r⟩ := h.ps p b hp e; exact r.lt
end
end Go.Proofs.YtfcepnhknmbaaaaGreat
