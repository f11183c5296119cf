/- A machine behind some walks ('Aft': its cache alone has turned); a jump ahead to a label; the levels of a guest's own tables ('lev'). -/
import Derived.Test.YtfcepnhknmbaaaaGreatTurnsM
import Derived.Test.YtfcepnhknmbaaaaGreatJoins
import Derived.Test.YtfcepnhknmbaaaaGreatTopM
import Derived.WalkMore
import Derived.ScopeJumps
namespace Go.Proofs.YtfcepnhknmbaaaaGreat
open Go.RowKit Go.Deep
open Go.Maps (Keyed)

/-- As Q; by a goto to label l: what lies behind the label is gone through. -/
def hop (P : Program) (l : Nat) (rest : Code) (Q : Exit → Act → World → Prop) : Exit → Act → World → Prop
  | .goto l', a, w => l' = l ∧ rest.wp P (Exit.noGoto Q) a w
  | e, a, w => Q e a w

theorem wp_scope_hop {P : Program} {a : Act} {w : World} {Q : Exit → Act → World → Prop} {c rest : Code} (l : Nat) (hf : findLabel c l = some rest) (first : c.wp P (hop P l rest Q) a w) : (Code.scope c).wp P Q a w := by
  refine wp_scope_jumps l (fun a w => rest.wp P (Exit.noGoto Q) a w) (fun _ _ => 0) hf (wp_mono first (fun e a w q => ?_)) (fun a w h => wp_mono h (fun e a w q => ?_))
  · cases e <;> exact q
  · cases e <;> first | exact q | exact q.elim

/-- Since w0 the machine's cache alone has turned, by at most n keys. -/
structure Aft (w0 w : World) (mb : Nat) (S : MS) (H : Hs) (n : Nat) (kb : Option Nat) (kn : Nat) (K : Int × Int → Option Int) : Prop where
  m : Mach w mb (S.cached kb kn K)
  i : Inv (S.cached kb kn K) H
  kn : kn ≤ S.kn + n
  kb : ∀ b, kb = some b → S.kb = some b ∨ w0.heap.size ≤ b
  o : Only (S.own mb) w0 w

def After (w0 w : World) (mb : Nat) (S : MS) (H : Hs) (n : Nat) : Prop := ∃ kb kn K, Aft w0 w mb S H n kb kn K

namespace After
variable {w0 w w' : World} {mb n : Nat} {S : MS} {H : Hs}

theorem start (hM : Mach w0 mb S) (hI : Inv S H) : After w0 w0 mb S H 0 := ⟨S.kb, S.kn, S.K, hM.cached_self, hI, Nat.le_refl _, fun _ h => Or.inl h, Only.refl _ _⟩
theorem nob (h : After w0 w mb S H n) (o : Only Nob w w') : After w0 w' mb S H n := by
  obtain ⟨kb, kn, K, h⟩ := h
  exact ⟨kb, kn, K, h.m.nob o, h.i, h.kn, h.kb, h.o.after o (fun _ _ q => q.elim)⟩
theorem mono (h : After w0 w mb S H n) {m : Nat} (hn : n ≤ m) : After w0 w mb S H m := by
  obtain ⟨kb, kn, K, h⟩ := h
  exact ⟨kb, kn, K, h.m, h.i, by have := h.kn; omega, h.kb, h.o⟩
theorem c0 (h : After w0 w mb S H n) : w.cell? ⟨mb, 0, none⟩ = some (pt S.mp) := by obtain ⟨kb, kn, K, h⟩ := h; exact h.m.c0
theorem c1 (h : After w0 w mb S H n) : w.cell? ⟨mb, 1, none⟩ = some (.map (some S.gb)) := by obtain ⟨kb, kn, K, h⟩ := h; exact h.m.c1
theorem mem (h : After w0 w mb S H n) : Mem w S.mp S.fb S.M := by obtain ⟨kb, kn, K, h⟩ := h; exact h.m.mem
theorem gst (h : After w0 w mb S H n) : MapIs Tryz.prog 3 kvG w S.gb S.cnt S.cnt S.gst := by obtain ⟨kb, kn, K, h⟩ := h; exact h.m.gst
theorem lt (h : After w0 w mb S H n) : mb < w.heap.size := by obtain ⟨kb, kn, K, h⟩ := h; exact h.m.lt
theorem o (h : After w0 w mb S H n) : Only (S.own mb) w0 w := by obtain ⟨kb, kn, K, h⟩ := h; exact h.o

theorem check (h : After w0 w mb S H n) (g : Int) (hg : In64 g) (b : Bool) : Calls Tryz.prog 53 #[pt mb, .int .i64 g, .bool b] w fun e w' => e = .returned (.int .i64 (checkE S g b)) ∧ Only Nob w w' := by
  obtain ⟨kb, kn, K, h⟩ := h
  exact check_any w mb _ h.m g hg b
theorem checkWord (h : After w0 w mb S H n) (g a v : Int) (hg : In64 g) : Calls Tryz.prog 64 #[pt mb, .int .i64 g, .int .i64 a, .int .i64 v] w fun e w' => e = .returned (.int .i64 (checkW S g a v)) ∧ Only Nob w w' := by
  obtain ⟨kb, kn, K, h⟩ := h
  exact checkWord_any w mb _ h.m g a v hg
theorem word (h : After w0 w mb S H n) (x a : Int) (h0 : 0 ≤ a) (h1 : a < 512) (hx : 0 ≤ x ∧ x ≤ 65535) (hn : numb x < S.M.n) : Calls Tryz.prog 63 #[pt mb, .int .u16 x, .int .i64 a] w fun e w' => e = .returned (.int .i64 (S.M.W (numb x) (a.toNat % 8))) ∧ Only Nob w w' := by
  obtain ⟨kb, kn, K, h⟩ := h
  exact mword_any w mb _ h.m x a h0 h1 hx hn

theorem walk (h : After w0 w mb S H n) {g q : Int} {r : Nat} (hg : In64 g) (hG : S.G g = some r) (h0 : 0 ≤ q) (h1 : q < 64) (hk : S.kn + n < maxLen) :
    Calls Tryz.prog 55 #[pt mb, .int .i64 g, .int .i64 q] w fun e w' => e = .returned (.int .u16 (S.M.ent r q.toNat)) ∧ After w0 w' mb S H (n + 1) := by
  obtain ⟨kb, kn, K, h⟩ := h
  have hG' : (S.cached kb kn K).G g = some r := hG
  have hd := h.i.good hg hG' h0 h1 (by show kn < maxLen; have := h.kn; omega)
  refine (mwalk_any w mb _ h.m g q r hd.g64 hd.G hd.p0 hd.p1 hd.root hd.tab hd.K hd.kn).mono ?_
  rintro e w' ⟨kb', kn', K', rfl, h2, hG2, ho2⟩
  refine ⟨rfl, kb', kn', K', h2, h.i.cached hG' h0 h1 hG2, ?_, ?_, ?_⟩
  · have e1 := hG2.kn
    have e2 := h.kn
    have e3 : (S.cached kb kn K).kn = kn := rfl
    omega
  · intro b hb
    rcases hG2.kb b hb with q | q
    · exact h.kb b q
    · have := h.o.size
      exact Or.inr (by omega)
  · refine h.o.after ho2 (fun b hb q => ?_)
    rcases q with q | q | q | q | q
    · exact Or.inl q
    · exact Or.inr (Or.inl q)
    · exact Or.inr (Or.inr (Or.inl q))
    · exact Or.inr (Or.inr (Or.inr (Or.inl q)))
    · exact (h.kb b q).elim (fun q => Or.inr (Or.inr (Or.inr (Or.inr q)))) (fun q => absurd q (by omega))
end After

/-! The levels. -/
/-- Which word of the page at this level is asked. -/
def idx (lv : Int) (p : Nat) : Nat := if lv = 1 then p / 8 else p % 8

/-- What a walk by a guest's own tables comes to, n levels ahead of the last: the entry, the fault's kind and level. -/
def lev (M : Mm) (r p : Nat) (st : Bool) : Nat → Nat → Int × Int × Int
  | 0, q => if pres (M.ent r q) then (if st && !wrib (M.ent r q) then (0, 4, 3) else (M.ent r q, 0, 0)) else (0, 3, 3)
  | n + 1, q =>
    if pres (M.ent r q) then
      if pres (M.W (numb (M.ent r q)) (idx (2 - n) p)) then
        if st && !wrib (M.W (numb (M.ent r q)) (idx (2 - n) p)) then (0, 2, 2 - n) else lev M r p st n (numb (M.W (numb (M.ent r q)) (idx (2 - n) p)))
      else (0, 1, 2 - n)
    else (0, 3, 2 - n)

def MS.turned (S : MS) (g : Int) (r p : Nat) (st : Bool) : Int × Int × Int := if S.Rt g = -1 then lev S.M r p st 0 p else lev S.M r p st 2 (S.Rt g).toNat

set_option maxHeartbeats 400000 in
theorem entryOf_any (w : World) (p lv : Int) (h0 : 0 ≤ p) (h1 : p < 64) : Calls Tryz.prog 91 #[.int .i64 p, .int .i64 lv] w fun e w' => e = .returned (.int .i64 (idx lv p.toNat : Nat)) ∧ w = w' := by
  have hmod := Int.tmod_eq_emod_of_nonneg h0 (b := 8)
  have hdiv := Int.tdiv_eq_ediv_of_nonneg h0 (b := 8)
  by_cases h : lv = 1
  · have HI : Hid (((idx lv p.toNat : Nat) : Int) = p / 8) := by simp only [Hid, idx, if_pos h]; omega
    go_enter Tryz.func91, Tryz.ntmps91
    go_wp2
    go_ret
    exact ⟨ret_int HI.out.symm, rfl⟩
  · have HI : Hid (((idx lv p.toNat : Nat) : Int) = p % 8) := by simp only [Hid, idx, if_neg h]; omega
    go_enter Tryz.func91, Tryz.ntmps91
    go_wp2
    go_ret
    exact ⟨ret_int HI.out.symm, rfl⟩
end Go.Proofs.YtfcepnhknmbaaaaGreat
