/- A machine as it lies in memory ('Mach': its struct, its memory, its guests' map, its cache), with laws on what turns; and the contracts of Free, isPage, isAddress, check. -/
import Derived.Test.YtfcepnhknmbaaaaCacheWalks
namespace Go.Proofs.Ytfcepnhknmbaaaa
open Go.RowKit Go.Deep
open Go.Maps (Keyed)

/-- What a machine holds: its frames; where its parts lie; its guests' roots; the last number; what the cache keeps. -/
structure MS where
  M : Mm
  mp : Nat
  fb : Nat
  gb : Nat
  kb : Option Nat
  G : Int → Option Nat
  cnt : Nat
  last : Nat
  K : Int × Int → Option Int
  kn : Nat
  Rt : Int → Int

/-- What the machine keeps of a guest: its space, its root page. -/
abbrev rsd (mp r : Nat) (x : Int) : Value := .agg #[pt mp, .int .i64 r, .int .i64 x]
theorem zero77 (w : World) : (zeroValue 77).run Try.prog w = .ok (.agg #[.pointer none, .int .i64 0, .int .i64 0]) w := by kernel_rfl

def MS.cell (S : MS) (i : Nat) : Value :=
  if i = 0 then pt S.mp else if i = 1 then .map (some S.gb) else if i = 2 then .int .i64 S.last else .map S.kb
def MS.gst (S : MS) (i : Int) : Option Value := (S.G i).map (fun r => rsd S.mp r (S.Rt i))
def MS.kept (S : MS) (i : Int × Int) : Option Value := (S.K i).map (fun x => .int .u16 x)
theorem fld0 (w : World) (mp r : Nat) (x : Int) : (Instr.field 77 (rsd mp r x) 0).run Try.prog w = .ok (sp mp r) w := by kernel_rfl
theorem fld1 (w : World) (mp r : Nat) (x : Int) : (Instr.field 77 (rsd mp r x) 1).run Try.prog w = .ok (.int .i64 x) w := by kernel_rfl

/-- A block of the machine's own. -/
def MS.own (mb : Nat) (S : MS) (b : Nat) : Prop := b = mb ∨ b = S.mp ∨ b = S.fb ∨ b = S.gb ∨ S.kb = some b

structure Mach (w : World) (mb : Nat) (S : MS) : Prop where
  row : ∃ t, w.rowIs mb t 4 S.cell
  mem : Mem w S.mp S.fb S.M
  gst : MapIs Try.prog 3 kvG w S.gb S.cnt S.cnt S.gst
  kpt : Kept w S.kb S.kn S.kept
  n1 : mb ≠ S.mp
  n2 : mb ≠ S.fb
  n3 : mb ≠ S.gb
  n4 : S.kb ≠ some mb
  n5 : S.mp ≠ S.gb
  n6 : S.fb ≠ S.gb
  n7 : S.kb ≠ some S.mp
  n8 : S.kb ≠ some S.fb
  n9 : S.kb ≠ some S.gb
  kz : S.kb = none → S.kn = 0

namespace Mach
variable {w w' : World} {mb : Nat} {S : MS}

theorem c0 (h : Mach w mb S) : w.cell? ⟨mb, 0, none⟩ = some (pt S.mp) := by obtain ⟨t, r⟩ := h.row; exact r.cell (by omega)
theorem c1 (h : Mach w mb S) : w.cell? ⟨mb, 1, none⟩ = some (.map (some S.gb)) := by obtain ⟨t, r⟩ := h.row; exact r.cell (by omega)
theorem c2 (h : Mach w mb S) : w.cell? ⟨mb, 2, none⟩ = some (.int .i64 S.last) := by obtain ⟨t, r⟩ := h.row; exact r.cell (by omega)
theorem c3 (h : Mach w mb S) : w.cell? ⟨mb, 3, none⟩ = some (.map S.kb) := by obtain ⟨t, r⟩ := h.row; exact r.cell (by omega)
theorem fz (h : Mach w mb S) (i : Nat) : w.frozen? ⟨mb, i, none⟩ = false := by obtain ⟨t, r⟩ := h.row; exact r.frozen i
theorem lt (h : Mach w mb S) : mb < w.heap.size := by obtain ⟨t, r⟩ := h.row; exact r.lt

theorem own_lt (h : Mach w mb S) {b : Nat} (hb : S.own mb b) : b < w.heap.size := by
  rcases hb with rfl | rfl | rfl | rfl | hk
  · exact h.lt
  · exact h.mem.ptr_lt
  · exact h.mem.row_lt
  · exact h.gst.lt
  · have := h.kpt
    rw [hk] at this
    obtain ⟨c, hm⟩ := this
    exact hm.lt

theorem kept_only {T : Nat → Prop} {kb : Option Nat} {n : Nat} {F : Int × Int → Option Value} (h : Kept w kb n F) (o : Only T w w') (ht : ∀ b, kb = some b → ¬ T b) : Kept w' kb n F := by
  cases kb with
  | none => exact h
  | some b => obtain ⟨c, hm⟩ := h; exact ⟨c, hm.only o (ht b rfl)⟩

theorem only {T : Nat → Prop} (h : Mach w mb S) (o : Only T w w') (ht : ∀ b, S.own mb b → ¬ T b) : Mach w' mb S := by
  obtain ⟨t, r⟩ := h.row
  exact ⟨⟨t, o.row r (ht _ (Or.inl rfl))⟩, h.mem.only o (ht _ (by simp [MS.own])) (ht _ (by simp [MS.own])), h.gst.only o (ht _ (by simp [MS.own])),
    kept_only h.kpt o (fun b hb => ht b (by simp [MS.own, hb])), h.n1, h.n2, h.n3, h.n4, h.n5, h.n6, h.n7, h.n8, h.n9, h.kz⟩

theorem nob (h : Mach w mb S) (o : Only Nob w w') : Mach w' mb S := h.only o (fun _ _ h => h)

/-- The frames have turned. -/
theorem turnM {M' : Mm} (h : Mach w mb S) (hM : Mem w' S.mp S.fb M') (o : Only (One S.fb) w w') : Mach w' mb { S with M := M' } := by
  obtain ⟨t, r⟩ := h.row
  exact ⟨⟨t, o.row r h.n2⟩, hM, h.gst.only o (fun e => h.n6 e.symm), kept_only h.kpt o (fun b hb e => h.n8 (by rw [hb, e])), h.n1, h.n2, h.n3, h.n4, h.n5, h.n6, h.n7, h.n8, h.n9, h.kz⟩

/-- The guests have turned. -/
theorem turnG {G' : Int → Option Nat} {c' : Nat} {Rt' : Int → Int} (h : Mach w mb S) (hG : MapIs Try.prog 3 kvG w' S.gb c' c' (fun i => (G' i).map (fun r => rsd S.mp r (Rt' i)))) (o : Only (One S.gb) w w') : Mach w' mb { S with G := G', cnt := c', Rt := Rt' } := by
  obtain ⟨t, r⟩ := h.row
  exact ⟨⟨t, o.row r h.n3⟩, h.mem.only o h.n5 h.n6, hG, kept_only h.kpt o (fun b hb e => h.n9 (by rw [hb, e])), h.n1, h.n2, h.n3, h.n4, h.n5, h.n6, h.n7, h.n8, h.n9, h.kz⟩

/-- The cache has turned, in its place. -/
theorem turnK {K' : Int × Int → Option Int} {n' : Nat} (h : Mach w mb S) (hK : Kept w' S.kb n' (fun i => (K' i).map (fun x => .int .u16 x))) (hz : S.kb = none → n' = 0) (o : Only (OptOne S.kb) w w') : Mach w' mb { S with K := K', kn := n' } := by
  obtain ⟨t, r⟩ := h.row
  exact ⟨⟨t, o.row r h.n4⟩, h.mem.only o h.n7 h.n8, h.gst.only o h.n9, hK, h.n1, h.n2, h.n3, h.n4, h.n5, h.n6, h.n7, h.n8, h.n9, hz⟩
end Mach

def isPg (p : Int) : Bool := decide (0 ≤ p ∧ p < 64)
def isAd (p : Int) : Bool := decide (0 ≤ p ∧ p < 512)

set_option maxHeartbeats 400000 in
theorem isPage_any (w : World) (p : Int) : Calls Try.prog 32 #[.int .i64 p] w fun e w' => e = .returned (.bool (isPg p)) ∧ w = w' := by
  by_cases h0 : 0 ≤ p
  · by_cases h1 : p < 64
    · have HE : Hid (isPg p = true) := by simp [Hid, isPg, h0, h1]
      go_enter Try.func32, Try.ntmps32
      go_wp2
      go_ret
      exact ⟨by rw [HE.out]; rfl, rfl⟩
    · have HE : Hid (isPg p = false) := by simp [Hid, isPg, h0, h1]
      go_enter Try.func32, Try.ntmps32
      go_wp2
      go_ret
      exact ⟨by rw [HE.out]; rfl, rfl⟩
  · have HE : Hid (isPg p = false) := by simp [Hid, isPg, h0]
    go_enter Try.func32, Try.ntmps32
    go_wp2
    go_ret
    exact ⟨by rw [HE.out]; rfl, rfl⟩

set_option maxHeartbeats 400000 in
theorem isAddress_any (w : World) (p : Int) : Calls Try.prog 46 #[.int .i64 p] w fun e w' => e = .returned (.bool (isAd p)) ∧ w = w' := by
  by_cases h0 : 0 ≤ p
  · by_cases h1 : p < 512
    · have HE : Hid (isAd p = true) := by simp [Hid, isAd, h0, h1]
      go_enter Try.func46, Try.ntmps46
      go_wp2
      go_ret
      exact ⟨by rw [HE.out]; rfl, rfl⟩
    · have HE : Hid (isAd p = false) := by simp [Hid, isAd, h0, h1]
      go_enter Try.func46, Try.ntmps46
      go_wp2
      go_ret
      exact ⟨by rw [HE.out]; rfl, rfl⟩
  · have HE : Hid (isAd p = false) := by simp [Hid, isAd, h0]
    go_enter Try.func46, Try.ntmps46
    go_wp2
    go_ret
    exact ⟨by rw [HE.out]; rfl, rfl⟩

set_option maxHeartbeats 400000 in
theorem free_any (w : World) (mb : Nat) (S : MS) (h : Mach w mb S) : Calls Try.prog 15 #[pt mb] w fun e w' => e = .returned (.int .i64 S.M.free) ∧ w = w' := by
  have hc := h.c0
  go_enter Try.func15, Try.ntmps15
  go_wp2_with (go_at_call 37; refine (memFree_any _ h.mem).mono ?_; rintro e w' ⟨rfl, rfl⟩)
  go_ret
  exact ⟨rfl, rfl⟩

/-- What check answers. -/
def checkE (S : MS) (g : Int) (b : Bool) : Int := if (S.G g).isSome then (if b then 0 else 5) else 4

set_option maxHeartbeats 400000 in
theorem check_any (w : World) (mb : Nat) (S : MS) (h : Mach w mb S) (g : Int) (hg : In64 g) (b : Bool) :
    Calls Try.prog 31 #[pt mb, .int .i64 g, .bool b] w fun e w' => e = .returned (.int .i64 (checkE S g b)) ∧ Only Nob w w' := by
  have hc := h.c1
  have hrun := h.gst.look_ok (i := g) law3 Try.underlying78 (zero77 w) (key3 hg)
  cases hG : S.G g with
  | none =>
    have HE : Hid (checkE S g b = 4) := by simp [Hid, checkE, hG]
    simp only [MS.gst, hG, Option.map_none, Option.getD_none, Option.isSome_none] at hrun
    go_enter Try.func31, Try.ntmps31
    go_wp2
    go_ret
    exact ⟨by rw [HE.out]; rfl, (Only.refl _ _).alloc _⟩
  | some r =>
    simp only [MS.gst, hG, Option.map_some, Option.getD_some, Option.isSome_some] at hrun
    cases b with
    | true =>
      have HE : Hid (checkE S g true = 0) := by simp [Hid, checkE, hG]
      go_enter Try.func31, Try.ntmps31
      go_wp2
      go_ret
      exact ⟨by rw [HE.out]; rfl, (Only.refl _ _).alloc _⟩
    | false =>
      have HE : Hid (checkE S g false = 5) := by simp [Hid, checkE, hG]
      go_enter Try.func31, Try.ntmps31
      go_wp2
      go_ret
      exact ⟨by rw [HE.out]; rfl, (Only.refl _ _).alloc _⟩
end Go.Proofs.Ytfcepnhknmbaaaa
