/- The law Older: what its loops hold; low. -/
import Derived.Test.YtfcepnhknmbaaaaOlderPure
import Derived.Test.YtfcepnhknmbaaaaSealM
import Derived.Test.YtfcepnhknmbaaaaKeepA
namespace Go.Proofs.Ytfcepnhknmbaaaa
open Go.RowKit Go.Deep

theorem byv_two {a b : Int} {x y : Nat} (ha : a = (x : Int)) (hb : b = (y : Int)) : [Value.int .u8 a, Value.int .u8 b] = byv [x, y] := by
  simp only [byv, List.map_cons, List.map_nil, ha, hb]

set_option maxRecDepth 100000 in
set_option maxHeartbeats 400000 in
theorem low_any (w : World) (n : Int) (h0 : 0 ≤ n) (h1 : n ≤ 1000000) :
    Calls Try.prog 28 #[.int .i64 n] w fun e w' => e = .returned (.string (toS [n.toNat % 256, n.toNat / 256 % 256])) ∧ Only Nob w w' := by
  have hst := fun w => run_lit_string (w := w) (l := [n.toNat % 256, n.toNat / 256 % 256]) (cs := #[.int .u8 (n % 256), .int .u8 (n / 256 % 256)]) (n := 2) rfl (byv_two (by omega) (by omega)) (fun x hx => by simp only [List.mem_cons, List.not_mem_nil, or_false] at hx; omega) (by simp)
  go_enter Try.func28, Try.ntmps28
  go_wp2
  go_ret
  exact ⟨rfl, (Only.refl _ _).alloc _⟩

/-- The law's machine, and rows of its own beside it. -/
structure ORun (w0 w : World) (mb : Nat) (A : Abs) (own : Nat → Prop) (X : Nat → Prop) : Prop where
  r : Rep w mb own A
  o : Only Nob w0 w
  lo : ∀ b, own b → w0.heap.size ≤ b
  ap : ∀ b, own b → ¬ X b
  xl : ∀ b, X b → w0.heap.size ≤ b ∧ b < w.heap.size

def Rows1 (w0 w : World) (mb hb : Nat) (A : Abs) (H : Nat → Bool) : Prop := (∃ own, ORun w0 w mb A own (fun b => b = hb)) ∧ ∃ t, w.rowIs hb t 64 (fun j => .bool (H j))
def Rows2 (w0 w : World) (mb hb gb : Nat) (A : Abs) (H : Nat → Bool) (G : Nat → Int) : Prop := (∃ own, ORun w0 w mb A own (fun b => b = hb ∨ b = gb)) ∧ hb ≠ gb ∧ (∃ t, w.rowIs hb t 64 (fun j => .bool (H j))) ∧ ∃ t, w.rowIs gb t 512 (fun j => .int .i64 (G j))

section
variable {w0 w w' : World} {mb hb gb : Nat} {A : Abs} {H : Nat → Bool} {G : Nat → Int} {own X : Nat → Prop}

theorem ORun.nob (h : ORun w0 w mb A own X) (o : Only Nob w w') : ORun w0 w' mb A own X := ⟨h.r.nob o, h.o.trans o, h.lo, h.ap, fun b hb => ⟨(h.xl b hb).1, Nat.lt_of_lt_of_le (h.xl b hb).2 o.size⟩⟩
theorem ORun.set (h : ORun w0 w mb A own X) {b : Nat} (hb : X b) (o : Only (One b) w w') : ORun w0 w' mb A own X :=
  ⟨h.r.only o (fun q hq e => h.ap q hq (by rw [show q = b from e]; exact hb)), h.o.after o (fun q hq e => absurd (h.xl b hb).1 (by rw [show q = b from e] at hq; omega)), h.lo, h.ap, fun b hb => ⟨(h.xl b hb).1, Nat.lt_of_lt_of_le (h.xl b hb).2 o.size⟩⟩
theorem ORun.call (h : ORun w0 w mb A own X) {A' : Abs} {own' : Nat → Prop} (r : Rep w' mb own' A') (l : Left w w' own own') : ORun w0 w' mb A' own' X := by
  have hs : w0.heap.size ≤ w.heap.size := h.o.size
  refine ⟨r, h.o.after l.only (fun b hb q => absurd (h.lo b q) (by omega)), fun b hb => ?_, fun b hb q => ?_, fun b hb => ⟨(h.xl b hb).1, Nat.lt_of_lt_of_le (h.xl b hb).2 l.only.size⟩⟩
  · rcases l.ext b hb with q | q
    · exact h.lo b q
    · omega
  · rcases l.ext b hb with r | r
    · exact h.ap b r q
    · have := (h.xl b q).2
      omega

theorem Rows1.nob (h : Rows1 w0 w mb hb A H) (o : Only Nob w w') : Rows1 w0 w' mb hb A H := by
  obtain ⟨⟨own, h1⟩, t, h2⟩ := h
  exact ⟨⟨own, h1.nob o⟩, t, o.row h2 (fun q => q)⟩
theorem Rows1.start (h : Run w0 w mb A) (hz : Array Value) (h64 : hz.size = 64) (hc : ∀ i, i < 64 → hz[i]? = some (.bool false)) : Rows1 w0 (w.alloc (.cells hz 26)) mb w.heap.size A (fun _ => false) := by
  obtain ⟨own, h1, h2, h3⟩ := h
  have hs : w0.heap.size ≤ w.heap.size := h2.size
  have o := (Only.refl Nob w).alloc (.cells hz 26)
  refine ⟨⟨own, ⟨h1.nob o, h2.trans o, h3, fun b hb e => ?_, fun b hb => ?_⟩⟩, 26, ?_⟩
  · have e : b = w.heap.size := e
    have := h1.own_lt hb
    omega
  · have e : b = w.heap.size := hb
    rw [World.size_alloc]
    omega
  · have := World.rowIs_alloc w hz 26 (fun _ => .bool false) (fun i hi => by rw [h64] at hi; exact hc i hi)
    rw [h64] at this
    exact this
theorem Rows1.put (h : Rows1 w0 w mb hb A H) (p : Nat) : Rows1 w0 (w.setCell ⟨hb, p, none⟩ (.bool true)) mb hb A (fun q => if q = p then true else H q) := by
  obtain ⟨⟨own, h1⟩, t, h2⟩ := h
  refine ⟨⟨own, h1.set (b := hb) rfl ((Only.refl (One hb) w).setCell (p := ⟨hb, p, none⟩) (fun _ => rfl) _)⟩, t, (h2.set p _).congr (fun j _ => ?_)⟩
  by_cases e : j = p
  · simp [e]
  · simp [e]
theorem Rows1.two (h : Rows1 w0 w mb hb A H) (hz : Array Value) (h64 : hz.size = 512) (hc : ∀ i, i < 512 → hz[i]? = some (.int .i64 0)) : Rows2 w0 (w.alloc (.cells hz 60)) mb hb w.heap.size A H (fun _ => 0) := by
  obtain ⟨⟨own, h1⟩, t, h2⟩ := h
  have o := (Only.refl Nob w).alloc (.cells hz 60)
  have hs : w0.heap.size ≤ w.heap.size := h1.o.size
  have hlt := (h1.xl hb rfl).2
  refine ⟨⟨own, ⟨h1.r.nob o, h1.o.trans o, h1.lo, fun b q e => ?_, fun b q => ?_⟩⟩, by omega, ⟨t, o.row h2 (fun q => q)⟩, 60, ?_⟩
  · rcases e with e | e
    · exact h1.ap b q e
    · have := h1.r.own_lt q
      omega
  · rw [World.size_alloc]
    rcases q with q | q
    · have := h1.xl b q
      omega
    · omega
  · have := World.rowIs_alloc w hz 60 (fun _ => .int .i64 0) (fun i hi => by rw [h64] at hi; exact hc i hi)
    rw [h64] at this
    exact this
theorem Rows2.nob (h : Rows2 w0 w mb hb gb A H G) (o : Only Nob w w') : Rows2 w0 w' mb hb gb A H G := by
  obtain ⟨⟨own, h1⟩, hne, ⟨t, h2⟩, t', h3⟩ := h
  exact ⟨⟨own, h1.nob o⟩, hne, ⟨t, o.row h2 (fun q => q)⟩, t', o.row h3 (fun q => q)⟩
theorem Rows2.put (h : Rows2 w0 w mb hb gb A H G) (p : Nat) (x : Int) : Rows2 w0 (w.setCell ⟨gb, p, none⟩ (.int .i64 x)) mb hb gb A H (fun q => if q = p then x else G q) := by
  obtain ⟨⟨own, h1⟩, hne, ⟨t, h2⟩, t', h3⟩ := h
  refine ⟨⟨own, h1.set (b := gb) (Or.inr rfl) ((Only.refl (One gb) w).setCell (p := ⟨gb, p, none⟩) (fun _ => rfl) _)⟩, hne, ⟨t, h2.setOther (by simpa using hne) _⟩, t', (h3.set p _).congr (fun j _ => ?_)⟩
  by_cases e : j = p
  · simp [e]
  · simp [e]
end
end Go.Proofs.Ytfcepnhknmbaaaa
