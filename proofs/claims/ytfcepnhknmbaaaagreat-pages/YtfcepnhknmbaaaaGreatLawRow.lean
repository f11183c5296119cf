/- A script that came in, as the law's walk is told of it; and the bodies of Pages and Reads. -/
import Derived.Test.YtfcepnhknmbaaaaGreatLawPlayed
import Derived.Deep.SlicePairs
import Derived.ChangeSlices
import Derived.OpenShut
namespace Go.Proofs.YtfcepnhknmbaaaaGreat
open Go.RowKit Go.Deep Go.ChangeShapes Go.WideShapes

theorem op_cells : Tryz.prog.cellsOf 30 = 8 := by kernel_rfl
theorem op_c3 : Tryz.prog.cellsOf 3 = 1 := by kernel_rfl
theorem op_c4 : Tryz.prog.cellsOf 4 = 1 := by kernel_rfl
theorem op_c9 : Tryz.prog.cellsOf 9 = 1 := by kernel_rfl
theorem op_bytes : Tryz.prog.bytesOf 30 = 72 := by kernel_rfl

theorem list8 {cs : List Value} (h : cs.length = 8) : ∃ v0 v1 v2 v3 v4 v5 v6 v7, cs = [v0, v1, v2, v3, v4, v5, v6, v7] := by
  match cs, h with
  | [v0, v1, v2, v3, v4, v5, v6, v7], _ => exact ⟨v0, v1, v2, v3, v4, v5, v6, v7, rfl⟩

set_option maxRecDepth 100000 in
theorem op_open {H : Type} {enc : TypeId × Value → H} {W : World} {base : Nat} {spare : Nat → Bool} {held : Bool} {n : Nat} {a : Addr} {i : Nat} {cs : List Value} {x : DataW H × List MemPlace}
    (h1 : W.cells? base (a.add (i * Tryz.prog.cellsOf 30)) (Tryz.prog.cellsOf 30) = some cs) (h2 : DataW.trod enc Tryz.prog W base spare held n 30 cs = some x) :
    ∃ o : OpD, ∀ b off, a = ⟨b, off, none⟩ → OpAt W b (off + i * 8) o := by
  rw [op_cells] at h1
  obtain ⟨_, hlen, hcell⟩ := World.cells?_some h1
  obtain ⟨xs, k, hk, hxy, _, hxl, hf⟩ := DataW.trod_struct Tryz.underlying30 h2
  have hx8 : xs.length = 8 := hxl
  obtain ⟨v0, v1, v2, v3, v4, v5, v6, v7, rfl⟩ := list8 hlen
  have g0 : DataW.trod enc Tryz.prog W base spare held k 3 [v0] = xs[0]? := by
    have q : DataW.trod enc Tryz.prog W base spare held k 3 (([v0, v1, v2, v3, v4, v5, v6, v7].drop 0).take (Tryz.prog.cellsOf 3)) = xs[0]? := hf 0 _ rfl
    rw [op_c3] at q
    exact q
  have g1 : DataW.trod enc Tryz.prog W base spare held k 3 [v1] = xs[1]? := by
    have q : DataW.trod enc Tryz.prog W base spare held k 3 (([v0, v1, v2, v3, v4, v5, v6, v7].drop 1).take (Tryz.prog.cellsOf 3)) = xs[1]? := hf 1 _ rfl
    rw [op_c3] at q
    exact q
  have g2 : DataW.trod enc Tryz.prog W base spare held k 3 [v2] = xs[2]? := by
    have q : DataW.trod enc Tryz.prog W base spare held k 3 (([v0, v1, v2, v3, v4, v5, v6, v7].drop 2).take (Tryz.prog.cellsOf 3)) = xs[2]? := hf 2 _ rfl
    rw [op_c3] at q
    exact q
  have g3 : DataW.trod enc Tryz.prog W base spare held k 3 [v3] = xs[3]? := by
    have q : DataW.trod enc Tryz.prog W base spare held k 3 (([v0, v1, v2, v3, v4, v5, v6, v7].drop 3).take (Tryz.prog.cellsOf 3)) = xs[3]? := hf 3 _ rfl
    rw [op_c3] at q
    exact q
  have g4 : DataW.trod enc Tryz.prog W base spare held k 3 [v4] = xs[4]? := by
    have q : DataW.trod enc Tryz.prog W base spare held k 3 (([v0, v1, v2, v3, v4, v5, v6, v7].drop 4).take (Tryz.prog.cellsOf 3)) = xs[4]? := hf 4 _ rfl
    rw [op_c3] at q
    exact q
  have g5 : DataW.trod enc Tryz.prog W base spare held k 3 [v5] = xs[5]? := by
    have q : DataW.trod enc Tryz.prog W base spare held k 3 (([v0, v1, v2, v3, v4, v5, v6, v7].drop 5).take (Tryz.prog.cellsOf 3)) = xs[5]? := hf 5 _ rfl
    rw [op_c3] at q
    exact q
  have g6 : DataW.trod enc Tryz.prog W base spare held k 4 [v6] = xs[6]? := by
    have q : DataW.trod enc Tryz.prog W base spare held k 4 (([v0, v1, v2, v3, v4, v5, v6, v7].drop 6).take (Tryz.prog.cellsOf 4)) = xs[6]? := hf 6 _ rfl
    rw [op_c4] at q
    exact q
  rw [List.getElem?_eq_getElem (by omega)] at g0 g1 g2 g3 g4 g5 g6
  obtain ⟨z0, e0, _, _⟩ := DataW.trod_int Tryz.underlying3 g0
  obtain ⟨z1, e1, _, q1⟩ := DataW.trod_int Tryz.underlying3 g1
  obtain ⟨z2, e2, _, q2⟩ := DataW.trod_int Tryz.underlying3 g2
  obtain ⟨z3, e3, _, _⟩ := DataW.trod_int Tryz.underlying3 g3
  obtain ⟨z4, e4, _, q4⟩ := DataW.trod_int Tryz.underlying3 g4
  obtain ⟨z5, e5, _, _⟩ := DataW.trod_int Tryz.underlying3 g5
  obtain ⟨z6, e6, _⟩ := DataW.trod_bool Tryz.underlying4 g6
  simp only [List.cons.injEq, and_true] at e0 e1 e2 e3 e4 e5 e6
  subst e0 e1 e2 e3 e4 e5 e6
  refine ⟨⟨z0, z1, z2, z3, z4, z5, z6, v7⟩, fun b off ha => ?_⟩
  subst ha
  have hq : ∀ j, j < 8 → W.cell? ⟨b, off + i * 8 + j, none⟩ = [Value.int .i64 z0, .int .i64 z1, .int .i64 z2, .int .i64 z3, .int .i64 z4, .int .i64 z5, .bool z6, v7][j]? := fun j hj => by
    have := hcell j hj
    rw [add_add, add_plain] at this
    rw [Nat.add_assoc]
    exact this
  exact ⟨hq 0 (by omega), hq 1 (by omega), hq 2 (by omega), hq 3 (by omega), hq 4 (by omega), hq 5 (by omega), hq 6 (by omega), hq 7 (by omega), bounds_i64 q1, bounds_i64 q2, bounds_i64 q4⟩

/-- What the walk is told of the script. -/
def Script (w : World) (sa : Option Addr) (len : Nat) : Prop := len ≤ 10000000000000 ∧ ∃ O : Nat → OpD, ∀ j, j < len → ∃ bb oo, sa = some ⟨bb, oo, none⟩ ∧ OpAt w bb (oo + j * 8) (O j)

theorem pages_walk (w : World) (sa : Option Addr) (len cap : Nat) (h : Script w sa len) :
    Calls Tryz.prog 3 #[.slice sa len cap] w fun e w' => e = .returned (.bool true) ∧ Below w.heap.size w w' := by
  obtain ⟨hl, O, hO⟩ := h
  have HO := hid hO
  clear hO
  go_enter Tryz.func3, Tryz.ntmps3
  go_wp2_with fail
  refine (played_any _ sa len cap O 6 (by omega) hl HO.out).mono ?_
  rintro e w1 ⟨rfl, hb⟩
  have HB := hid hb
  clear hb
  go_wp2
  go_ret
  exact ⟨rfl, HB.out⟩

theorem reads_walk (w : World) (sa : Option Addr) (len cap : Nat) (h : Script w sa len) :
    Calls Tryz.prog 4 #[.slice sa len cap] w fun e w' => e = .returned (.bool true) ∧ Below w.heap.size w w' := by
  obtain ⟨hl, O, hO⟩ := h
  have HO := hid hO
  clear hO
  go_enter Tryz.func4, Tryz.ntmps4
  go_wp2_with fail
  refine (played_any _ sa len cap O 8 (by omega) hl HO.out).mono ?_
  rintro e w1 ⟨rfl, hb⟩
  have HB := hid hb
  clear hb
  go_wp2
  go_ret
  exact ⟨rfl, HB.out⟩

theorem turns_walk (w : World) (sa : Option Addr) (len cap : Nat) (h : Script w sa len) :
    Calls Tryz.prog 5 #[.slice sa len cap] w fun e w' => e = .returned (.bool true) ∧ Below w.heap.size w w' := by
  obtain ⟨hl, O, hO⟩ := h
  have HO := hid hO
  clear hO
  go_enter Tryz.func5, Tryz.ntmps5
  go_wp2_with fail
  refine (played_any _ sa len cap O 12 (by omega) hl HO.out).mono ?_
  rintro e w1 ⟨rfl, hb⟩
  have HB := hid hb
  clear hb
  go_wp2
  go_ret
  exact ⟨rfl, HB.out⟩
end Go.Proofs.YtfcepnhknmbaaaaGreat
