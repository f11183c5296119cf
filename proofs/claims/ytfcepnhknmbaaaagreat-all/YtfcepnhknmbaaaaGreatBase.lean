/- The heap's words of the program 'cradle': what a call may turn ('Only'), and a memory of frames as it lies in two blocks ('Mem'), with its laws. No program is named here. -/
import Derived.WalkKit
import Derived.WalkSpells
import Derived.WalkLawsBesides
import Derived.Deep.OwnRows
import Derived.Deep.QuietTactic
import Derived.BigQuiet
import Derived.Deep.RegionWith
namespace Go.Proofs.YtfcepnhknmbaaaaGreat
open Go.RowKit Go.Deep

theorem hid {p : Prop} (h : p) : Hid p := h

/-- Of the blocks that were there, only those of S may have turned; blocks may have come. -/
structure Only (S : Nat → Prop) (w w' : World) : Prop where
  os : w'.os = w.os
  tape : w'.tape = w.tape
  output : w'.output = w.output
  size : w.heap.size ≤ w'.heap.size
  block : ∀ k, k < w.heap.size → ¬ S k → w'.heap[k]? = w.heap[k]?

def Nob (_ : Nat) : Prop := False
def One (b : Nat) (k : Nat) : Prop := k = b

namespace Only
variable {S T : Nat → Prop} {w w' w'' : World}

theorem refl (S : Nat → Prop) (w : World) : Only S w w := ⟨rfl, rfl, rfl, Nat.le_refl _, fun _ _ _ => rfl⟩

theorem mono (h : Only S w w') (hs : ∀ k, k < w.heap.size → S k → T k) : Only T w w' :=
  ⟨h.os, h.tape, h.output, h.size, fun k hk hn => h.block k hk (fun hS => hn (hs k hk hS))⟩

theorem of_nob (h : Only Nob w w') : Only S w w' := h.mono (fun _ _ hs => hs.elim)

theorem trans (h : Only S w w') (k : Only S w' w'') : Only S w w'' :=
  ⟨k.os.trans h.os, k.tape.trans h.tape, k.output.trans h.output, Nat.le_trans h.size k.size,
    fun i hi hs => (k.block i (Nat.lt_of_lt_of_le hi h.size) hs).trans (h.block i hi hs)⟩

theorem drew (h : Only S w w') : Only S w w'.drew := ⟨h.os, h.tape, h.output, h.size, h.block⟩

theorem drewN (h : Only S w w') (n : Nat) : Only S w (w'.drewN n) := ⟨h.os, h.tape, h.output, h.size, h.block⟩

theorem alloc (h : Only S w w') (o : Obj) : Only S w (w'.alloc o) :=
  h.trans ⟨rfl, rfl, rfl, by simp, fun k hk _ => Below.heap_alloc _ _ _ hk⟩

theorem setCell (h : Only S w w') {p : Addr} (hp : p.block < w.heap.size → S p.block) (u : Value) : Only S w (w'.setCell p u) := by
  refine ⟨h.os, h.tape, h.output, by simpa [World.setCell] using h.size, fun k hk hs => ?_⟩
  rw [Below.heap_setCell _ _ _ _ (fun e => hs (by subst e; exact hp hk))]
  exact h.block k hk hs

theorem setOne {b : Nat} {w w' : World} (h : Only (One b) w w') (o : Nat) (u : Value) : Only (One b) w (w'.setCell ⟨b, o, none⟩ u) := h.setCell (p := ⟨b, o, none⟩) (fun _ => rfl) u

/-- What comes first laid blocks alone; the rest turns only S and blocks that were laid. -/
theorem after (h : Only S w w') (k : Only T w' w'') (hT : ∀ b, b < w.heap.size → T b → S b) : Only S w w'' :=
  ⟨k.os.trans h.os, k.tape.trans h.tape, k.output.trans h.output, Nat.le_trans h.size k.size,
    fun i hi hs => (k.block i (Nat.lt_of_lt_of_le hi h.size) (fun ht => hs (hT i hi ht))).trans (h.block i hi hs)⟩

theorem cell (h : Only S w w') {p : Addr} (hp : p.block < w.heap.size) (hs : ¬ S p.block) : w'.cell? p = w.cell? p :=
  World.cell?_of_block (w := w) (h.block p.block hp hs)

theorem frozen (h : Only S w w') {p : Addr} (hp : p.block < w.heap.size) (hs : ¬ S p.block) : w'.frozen? p = w.frozen? p :=
  World.frozen?_of_block (w := w) (h.block p.block hp hs)

/-- A cell that was there. -/
theorem keep (h : Only S w w') {p : Addr} {v : Value} (hs : ¬ S p.block) (hc : w.cell? p = some v) : w'.cell? p = some v := by
  rw [h.cell (World.block_lt_of_cell? _ _ hc) hs, hc]

/-- A block that was laid ahead of the call. -/
theorem laid {c : Array Value} {t : TypeId} (h : Only S (w.alloc (.cells c t)) w') (hs : ¬ S w.heap.size) (i : Nat) : w'.cell? ⟨w.heap.size, i, none⟩ = c[i]? := by
  rw [h.cell (p := ⟨w.heap.size, i, none⟩) (by simp) hs]
  simp

theorem laidD {c : Array Value} {t : TypeId} (h : Only S (w.alloc (.cells c t)).drew w') (hs : ¬ S w.heap.size) (i : Nat) : w'.cell? ⟨w.heap.size, i, none⟩ = c[i]? :=
  laid (w := w) (c := c) (t := t) ⟨h.os, h.tape, h.output, h.size, h.block⟩ hs i

theorem row (h : Only S w w') {b : Nat} {t : TypeId} {n : Nat} {f : Nat → Value} (r : w.rowIs b t n f) (hs : ¬ S b) : w'.rowIs b t n f :=
  r.of_block (h.block b r.lt hs)

theorem below (h : Only S w w') (hs : ∀ k, k < w.heap.size → ¬ S k) : Below w.heap.size w w' :=
  ⟨h.os, h.tape, h.output, h.size, fun k hk => h.block k hk (hs k hk)⟩

theorem belowB {B : Nat} (h : Only S w w') (hB : B ≤ w.heap.size) (hs : ∀ k, k < B → ¬ S k) : Below B w w' :=
  ⟨h.os, h.tape, h.output, h.size, fun k hk => h.block k (by omega) (hs k hk)⟩
end Only

/-- Frames: how many; their words; their users. -/
structure Mm where
  n : Nat
  W : Nat → Nat → Int
  U : Nat → Int

def cellOf (M : Mm) (i : Nat) : Value := if i % 9 < 8 then .int .u16 (M.W (i / 9) (i % 9)) else .int .i64 (M.U (i / 9))

def upd (f : Nat → Int) (i : Nat) (v : Int) (j : Nat) : Int := if j = i then v else f j
def upd2 (f : Nat → Nat → Int) (i k : Nat) (v : Int) (j l : Nat) : Int := if j = i ∧ l = k then v else f j l
def Mm.setW (M : Mm) (i k : Nat) (v : Int) : Mm := { M with W := upd2 M.W i k v }
def Mm.setU (M : Mm) (i : Nat) (v : Int) : Mm := { M with U := upd M.U i v }
def Mm.blank (M : Mm) (i : Nat) : Mm := { M with W := fun j l => if j = i then 0 else M.W j l }

/-- A memory: block mp is the struct, block fb the frames. -/
structure Mem (w : World) (mp fb : Nat) (M : Mm) : Prop where
  ptr : ∃ t, w.rowIs mp t 1 (fun _ => .slice (some ⟨fb, 0, none⟩) M.n M.n)
  row : ∃ t, w.rowIs fb t (M.n * 9) (cellOf M)
  ne : mp ≠ fb
  le : M.n ≤ 64
  wb : ∀ i k, 0 ≤ M.W i k ∧ M.W i k ≤ 65535
  ub : ∀ i, 0 ≤ M.U i ∧ M.U i ≤ 1000000

namespace Mem
variable {w w' : World} {mp fb : Nat} {M : Mm}

theorem ptr_lt (h : Mem w mp fb M) : mp < w.heap.size := by obtain ⟨t, r⟩ := h.ptr; exact r.lt
theorem row_lt (h : Mem w mp fb M) : fb < w.heap.size := by obtain ⟨t, r⟩ := h.row; exact r.lt

theorem slice (h : Mem w mp fb M) : w.cell? ⟨mp, 0, none⟩ = some (.slice (some ⟨fb, 0, none⟩) M.n M.n) := by
  obtain ⟨t, r⟩ := h.ptr
  exact r.cell (by omega)

theorem froz (h : Mem w mp fb M) (i : Nat) : w.frozen? ⟨fb, i, none⟩ = false := by
  obtain ⟨t, r⟩ := h.row
  exact r.frozen i

theorem word (h : Mem w mp fb M) {i k : Nat} (hi : i < M.n) (hk : k < 8) : w.cell? ⟨fb, i * 9 + k, none⟩ = some (.int .u16 (M.W i k)) := by
  obtain ⟨t, r⟩ := h.row
  rw [r.cell (by omega)]
  simp only [cellOf]
  rw [if_pos (by omega), show (i * 9 + k) / 9 = i by omega, show (i * 9 + k) % 9 = k by omega]

theorem user (h : Mem w mp fb M) {i : Nat} (hi : i < M.n) : w.cell? ⟨fb, i * 9 + 8, none⟩ = some (.int .i64 (M.U i)) := by
  obtain ⟨t, r⟩ := h.row
  rw [r.cell (by omega)]
  simp only [cellOf]
  rw [if_neg (by omega), show (i * 9 + 8) / 9 = i by omega]

theorem only {S : Nat → Prop} (h : Mem w mp fb M) (o : Only S w w') (h1 : ¬ S mp) (h2 : ¬ S fb) : Mem w' mp fb M := by
  obtain ⟨t, r⟩ := h.ptr
  obtain ⟨t', r'⟩ := h.row
  exact ⟨⟨t, o.row r h1⟩, ⟨t', o.row r' h2⟩, h.ne, h.le, h.wb, h.ub⟩

theorem nob (h : Mem w mp fb M) (o : Only Nob w w') : Mem w' mp fb M := h.only o (fun h => h) (fun h => h)

theorem alloc (h : Mem w mp fb M) (o : Obj) : Mem (w.alloc o) mp fb M := h.nob ((Only.refl _ _).alloc o)
theorem drew (h : Mem w mp fb M) : Mem w.drew mp fb M := h.nob (Only.refl _ _).drew

theorem drewN (h : Mem w mp fb M) (n : Nat) : Mem (w.drewN n) mp fb M := h.nob ((Only.refl _ _).drewN n)

theorem setCell (h : Mem w mp fb M) {a : Addr} (h1 : mp ≠ a.block) (h2 : fb ≠ a.block) (v : Value) : Mem (w.setCell a v) mp fb M := by
  obtain ⟨t, r⟩ := h.ptr
  obtain ⟨t', r'⟩ := h.row
  exact ⟨⟨t, r.setOther h1 v⟩, ⟨t', r'.setOther h2 v⟩, h.ne, h.le, h.wb, h.ub⟩

theorem setW (h : Mem w mp fb M) {i k : Nat} {v : Int} (hk : k < 8) (hv : 0 ≤ v ∧ v ≤ 65535) :
    Mem (w.setCell ⟨fb, i * 9 + k, none⟩ (.int .u16 v)) mp fb (M.setW i k v) := by
  obtain ⟨t, r⟩ := h.ptr
  obtain ⟨t', r'⟩ := h.row
  refine ⟨⟨t, r.setOther h.ne _⟩, ⟨t', (r'.set (i * 9 + k) _).congr fun j _ => ?_⟩, h.ne, h.le, fun a b => ?_, h.ub⟩
  · simp only [cellOf, Mm.setW, upd2]
    by_cases e : j = i * 9 + k
    · subst e
      rw [if_pos rfl, if_pos (by omega), if_pos (by omega)]
    · rw [if_neg e]
      by_cases e2 : j % 9 < 8
      · rw [if_pos e2, if_pos e2, if_neg (by omega)]
      · rw [if_neg e2, if_neg e2]
  · simp only [Mm.setW, upd2]
    split
    · exact hv
    · exact h.wb a b

theorem setU (h : Mem w mp fb M) {i : Nat} {v : Int} (hv : 0 ≤ v ∧ v ≤ 1000000) :
    Mem (w.setCell ⟨fb, i * 9 + 8, none⟩ (.int .i64 v)) mp fb (M.setU i v) := by
  obtain ⟨t, r⟩ := h.ptr
  obtain ⟨t', r'⟩ := h.row
  refine ⟨⟨t, r.setOther h.ne _⟩, ⟨t', (r'.set (i * 9 + 8) _).congr fun j _ => ?_⟩, h.ne, h.le, h.wb, fun a => ?_⟩
  · simp only [cellOf, Mm.setU, upd]
    by_cases e : j = i * 9 + 8
    · subst e
      rw [if_pos rfl, if_neg (by omega), if_pos (by omega)]
    · rw [if_neg e]
      by_cases e2 : j % 9 < 8
      · rw [if_pos e2, if_pos e2]
      · rw [if_neg e2, if_neg e2, if_neg (by omega)]
  · simp only [Mm.setU, upd]
    split
    · exact hv
    · exact h.ub a

theorem congr {M' : Mm} (h : Mem w mp fb M) (hn : M'.n = M.n) (hW : ∀ i k, M'.W i k = M.W i k) (hU : ∀ i, M'.U i = M.U i) : Mem w mp fb M' := by
  have : M' = M := by
    cases M; cases M'
    simp only at hn hW hU
    subst hn
    have e1 := funext fun i => funext (hW i)
    have e2 := funext hU
    subst e1 e2
    rfl
  rw [this]; exact h
/-- Behind a call that reads and lays, a block and a draw ahead of it. -/
theorem behindD {o : Obj} {w1 : World} (hM : Mem w mp fb M) (ho : Only Nob (w.alloc o).drew w1) : Mem w1 mp fb M ∧ Only Nob w w1 :=
  ⟨(hM.alloc o).drew.nob ho, ((Only.refl Nob w).alloc o).drew.trans ho⟩
theorem behind {o : Obj} {w1 : World} (hM : Mem w mp fb M) (ho : Only Nob (w.alloc o) w1) : Mem w1 mp fb M ∧ Only Nob w w1 :=
  ⟨(hM.alloc o).nob ho, ((Only.refl Nob w).alloc o).trans ho⟩
end Mem

end Go.Proofs.YtfcepnhknmbaaaaGreat
