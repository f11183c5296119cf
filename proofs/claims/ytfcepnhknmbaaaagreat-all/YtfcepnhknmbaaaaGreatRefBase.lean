/- The document's machine (package cradleref) as it lies in memory ('Refm'), and the contracts of its guest, takes, tables. -/
import Derived.Test.YtfcepnhknmbaaaaGreatMemWalks
import Derived.Maps.AppendAt
namespace Go.Proofs.YtfcepnhknmbaaaaGreat
open Go.RowKit Go.Deep

/-- A guest of the document's: its number, its root page, its block, its pages' blocks, which it may write. -/
structure RG where
  N : Int
  root : Int
  gb : Nat
  P : Nat → Option Nat
  Wr : Nat → Bool

def ptO (o : Option Nat) : Value := .pointer (o.map fun b => ⟨b, 0, none⟩)
theorem ptO_none : ptO none = .pointer none := rfl
theorem ptO_some (b : Nat) : ptO (some b) = pt b := rfl

def RG.cell (g : RG) (i : Nat) : Value :=
  if i = 0 then .int .i64 g.N else if i = 1 then .int .i64 g.root else if i % 2 = 0 then ptO (g.P ((i - 2) / 2)) else .bool (g.Wr ((i - 3) / 2))

theorem RG.cellP (g : RG) (p : Nat) : g.cell (2 + p * 2) = ptO (g.P p) := by
  simp only [RG.cell]
  rw [if_neg (by omega), if_neg (by omega), if_pos (by omega), show (2 + p * 2 - 2) / 2 = p by omega]
theorem RG.cellW (g : RG) (p : Nat) : g.cell (2 + p * 2 + 1) = .bool (g.Wr p) := by
  simp only [RG.cell]
  rw [if_neg (by omega), if_neg (by omega), if_neg (by omega), show (2 + p * 2 + 1 - 3) / 2 = p by omega]

structure RS where
  n : Nat
  last : Nat
  made : Nat
  gv : Value
  L : List RG
  Id : Nat → Int
  Wd : Nat → Nat → Int

def RS.cell (R : RS) (i : Nat) : Value := if i = 0 then .int .i64 R.n else if i = 1 then R.gv else if i = 2 then .int .i64 R.last else .int .i64 R.made
def RS.pgCell (R : RS) (b i : Nat) : Value := if i = 0 then .int .i64 (R.Id b) else .int .i64 (R.Wd b (i - 1))

/-- Block b is a page of one of the guests. -/
def RS.isPg (R : RS) (b : Nat) : Prop := ∃ g, g ∈ R.L ∧ ∃ p, p < 64 ∧ g.P p = some b
def RS.isGs (R : RS) (b : Nat) : Prop := ∃ g, g ∈ R.L ∧ g.gb = b
def RS.own (rb : Nat) (R : RS) (b : Nat) : Prop := b = rb ∨ R.gv.ownBlock = some b ∨ R.isGs b ∨ R.isPg b

structure Refm (w : World) (rb : Nat) (R : RS) : Prop where
  row : ∃ t, w.rowIs rb t 4 R.cell
  sl : w.ownsRow 0 74 1 R.gv R.L.length (R.L.map fun g => pt g.gb)
  gs : ∀ g, g ∈ R.L → ∃ t, w.rowIs g.gb t 130 g.cell
  ps : ∀ b, R.isPg b → ∃ t, w.rowIs b t 9 (R.pgCell b)
  n1 : R.gv.ownBlock ≠ some rb
  n2 : ¬ R.isGs rb
  n3 : ¬ R.isPg rb
  n4 : ∀ b, R.gv.ownBlock = some b → ¬ R.isGs b ∧ ¬ R.isPg b
  n5 : ∀ b, R.isGs b → ¬ R.isPg b
  nd : (R.L.map fun g => g.gb).Nodup
  many : R.L.length ≤ 4

namespace Refm
variable {w w' : World} {rb : Nat} {R : RS}
theorem c0 (h : Refm w rb R) : w.cell? ⟨rb, 0, none⟩ = some (.int .i64 R.n) := by obtain ⟨t, r⟩ := h.row; exact r.cell (by omega)
theorem c1 (h : Refm w rb R) : w.cell? ⟨rb, 1, none⟩ = some R.gv := by obtain ⟨t, r⟩ := h.row; exact r.cell (by omega)
theorem c2 (h : Refm w rb R) : w.cell? ⟨rb, 2, none⟩ = some (.int .i64 R.last) := by obtain ⟨t, r⟩ := h.row; exact r.cell (by omega)
theorem c3 (h : Refm w rb R) : w.cell? ⟨rb, 3, none⟩ = some (.int .i64 R.made) := by obtain ⟨t, r⟩ := h.row; exact r.cell (by omega)
theorem fz (h : Refm w rb R) (i : Nat) : w.frozen? ⟨rb, i, none⟩ = false := by obtain ⟨t, r⟩ := h.row; exact r.frozen i
theorem lt (h : Refm w rb R) : rb < w.heap.size := by obtain ⟨t, r⟩ := h.row; exact r.lt

theorem own_lt (h : Refm w rb R) {b : Nat} (hb : R.own rb b) : b < w.heap.size := by
  rcases hb with rfl | hb | ⟨g, hg, rfl⟩ | hb
  · exact h.lt
  · exact (h.sl.lt b hb).2
  · obtain ⟨t, r⟩ := h.gs g hg; exact r.lt
  · obtain ⟨t, r⟩ := h.ps b hb; exact r.lt

/-- The guests' slice, where there is a guest. -/
theorem slice (h : Refm w rb R) (hn : 0 < R.L.length) : ∃ sb cap, R.gv = .slice (some ⟨sb, 0, none⟩) R.L.length cap ∧ ∀ j g, R.L[j]? = some g → w.cell? ⟨sb, j, none⟩ = some (pt g.gb) := by
  have hs := h.sl
  rcases hs.2 with ⟨_, e⟩ | ⟨g, cap, cur, hv, _⟩
  · omega
  · refine ⟨g, cap, hv, fun j x hj => ?_⟩
    rw [hv] at hs
    have hjl : j < R.L.length := by
      rcases Nat.lt_or_ge j R.L.length with q | q
      · exact q
      · rw [List.getElem?_eq_none q] at hj; cases hj
    rw [hs.cellAt j (by omega), List.getElem?_map, hj]
    rfl

theorem only {T : Nat → Prop} (h : Refm w rb R) (o : Only T w w') (ht : ∀ b, R.own rb b → ¬ T b) : Refm w' rb R := by
  obtain ⟨t, r⟩ := h.row
  refine ⟨⟨t, o.row r (ht _ (Or.inl rfl))⟩, ⟨h.sl.1, ?_⟩, fun g hg => ?_, fun b hb => ?_, h.n1, h.n2, h.n3, h.n4, h.n5, h.nd, h.many⟩
  · rcases h.sl.2 with q | ⟨g, cap, cur, hv, q1, q2, q3⟩
    · exact Or.inl q
    · refine Or.inr ⟨g, cap, cur, hv, q1, ?_, q3⟩
      have hg : R.gv.ownBlock = some g := by rw [hv]; rfl
      rw [o.block g (h.sl.lt g hg).2 (ht g (Or.inr (Or.inl hg)))]
      exact q2
  · obtain ⟨t, r⟩ := h.gs g hg
    exact ⟨t, o.row r (ht _ (Or.inr (Or.inr (Or.inl ⟨g, hg, rfl⟩))))⟩
  · obtain ⟨t, r⟩ := h.ps b hb
    exact ⟨t, o.row r (ht _ (Or.inr (Or.inr (Or.inr hb))))⟩
theorem nob (h : Refm w rb R) (o : Only Nob w w') : Refm w' rb R := h.only o (fun _ _ q => q)

theorem gpage (h : Refm w rb R) {g : RG} (hg : g ∈ R.L) {p : Nat} (hp : p < 64) : w.cell? ⟨g.gb, 2 + p * 2, none⟩ = some (ptO (g.P p)) ∧ w.cell? ⟨g.gb, 2 + p * 2 + 1, none⟩ = some (.bool (g.Wr p)) := by
  obtain ⟨t, r⟩ := h.gs g hg
  exact ⟨by rw [r.cell (by omega), g.cellP], by rw [r.cell (by omega), g.cellW]⟩
theorem gN (h : Refm w rb R) {g : RG} (hg : g ∈ R.L) : w.cell? ⟨g.gb, 0, none⟩ = some (.int .i64 g.N) := by
  obtain ⟨t, r⟩ := h.gs g hg
  exact r.cell (by omega)
end Refm

/-- The guest of a number, from place k on. -/
def findFrom (L : List RG) (n : Int) : Option RG := L.find? fun g => g.N == n

set_option maxHeartbeats 1000000 in
theorem rguest_any (w : World) (rb : Nat) (R : RS) (h : Refm w rb R) (n : Int) :
    Calls Tryz.prog 52 #[pt rb, .int .i64 n] w fun e w' => e = .returned (ptO ((findFrom R.L n).map fun g => g.gb)) ∧ w = w' := by
  have hc := h.c1
  have hm := h.many
  by_cases h0 : R.L.length = 0
  · have hnil : R.L = [] := List.eq_nil_of_length_eq_zero h0
    obtain ⟨a, cap, hgv⟩ : ∃ a cap, R.gv = .slice a 0 cap := by
      rcases h.sl.2 with ⟨q, _⟩ | ⟨g, cap, cur, hv, _⟩
      · exact ⟨none, 0, q⟩
      · exact ⟨_, cap, by rw [hv, h0]⟩
    rw [hgv] at hc
    have HF : Hid (findFrom R.L n = none) := by rw [Hid, hnil]; rfl
    clear hnil h0 hgv
    go_enter Tryz.func52, Tryz.ntmps52
    go_wp2
    go_loop [5] (fun c => c = .int .i64 0) (fun _ => 0)
    case atStart => exact rfl
    case round =>
      subst hrel
      go_wp2
      go_ret
      exact ⟨by rw [HF.out]; rfl, rfl⟩
  · obtain ⟨sb, cap, hgv, hcell⟩ := h.slice (by omega)
    rw [hgv] at hc
    have HCELL := hid hcell
    clear hcell
    go_enter Tryz.func52, Tryz.ntmps52
    go_wp2
    go_loop [5] (fun c => ∃ k : Nat, k ≤ R.L.length ∧ c = .int .i64 k ∧ findFrom (R.L.drop k) n = findFrom R.L n) (fun c => R.L.length - (intOf c).toNat)
    case atStart => exact ⟨0, by omega, rfl, by simp⟩
    case round =>
      obtain ⟨k, hk, rfl, hf⟩ := hrel
      by_cases hlt : k < R.L.length
      · have hg := List.getElem?_eq_getElem hlt
        have hcg := HCELL.out k _ hg
        have hgm : R.L[k] ∈ R.L := List.getElem_mem hlt
        have hN := h.gN hgm
        clear hg
        rw [List.drop_eq_getElem_cons hlt] at hf
        simp only [findFrom, List.find?_cons] at hf
        generalize R.L[k] = g at *
        cases he : g.N == n with
        | true =>
          rw [he] at hf
          have HF := hid hf
          clear hf
          go_wp2
          go_ret
          exact ⟨by rw [findFrom, ← HF.out]; rfl, rfl⟩
        | false =>
          rw [he] at hf
          have HF := hid hf
          clear hf
          go_wp2
          go_round
          case rel => exact ⟨k + 1, by omega, by go_num, HF.out⟩
          case measure => simp [intOf]; omega
      · have ek : k = R.L.length := by omega
        have HF : Hid (findFrom R.L n = none) := by rw [Hid, ← hf, ek, List.drop_length]; rfl
        clear hf ek
        go_wp2
        go_ret
        exact ⟨by rw [HF.out]; rfl, rfl⟩
end Go.Proofs.YtfcepnhknmbaaaaGreat
