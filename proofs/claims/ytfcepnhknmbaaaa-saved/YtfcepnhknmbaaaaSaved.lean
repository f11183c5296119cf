/- Proved: the Go function Saved of package cradlekeep returns true for every script, a list of steps of any length, and every two ints, and leaves its arguments as they were; no condition. -/
import Derived.Test.YtfcepnhknmbaaaaRows
import Derived.WalkKit
import Derived.ProofKit
import Derived.OpenShut
import Derived.ShutString
import Derived.ChangeOld
import Derived.Below
import Derived.SizedLaws
import Derived.Deep.SlicePairs
import Derived.ChangeSlices
import Derived.Test.YtfcepnhknmbaaaaSavedN
namespace Go.Proofs.Ytfcepnhknmbaaaa
open Go.ChangeShapes Go.WideShapes Go.ChangeAt Go.RowKit Go.Deep
open Go.ChangeMaps (open_string shut_string)
set_option linter.unusedVariables false

theorem saved_own : ownKnob Try.prog.godebug = none := by kernel_rfl
theorem sv_cells : Try.prog.cellsOf 40 = 5 := by kernel_rfl
theorem sv_c3 : Try.prog.cellsOf 3 = 1 := by kernel_rfl
theorem sv_c4 : Try.prog.cellsOf 4 = 1 := by kernel_rfl
theorem sv_bytes : Try.prog.bytesOf 40 = 40 := by kernel_rfl

theorem svlist5 {cs : List Value} (h : cs.length = 5) : ∃ v0 v1 v2 v3 v4, cs = [v0, v1, v2, v3, v4] := by
  match cs, h with
  | [v0, v1, v2, v3, v4], _ => exact ⟨v0, v1, v2, v3, v4, rfl⟩

set_option maxRecDepth 100000 in
theorem sv_open {H : Type} {enc : TypeId × Value → H} {W : World} {base : Nat} {spare : Nat → Bool} {held : Bool} {n : Nat} {a : Addr} {i : Nat} {cs : List Value} {x : DataW H × List MemPlace}
    (h1 : W.cells? base (a.add (i * Try.prog.cellsOf 40)) (Try.prog.cellsOf 40) = some cs) (h2 : DataW.trod enc Try.prog W base spare held n 40 cs = some x) :
    ∃ o : StD, ∀ b off, a = ⟨b, off, none⟩ → StAt W b (off + i * 5) o := by
  rw [sv_cells] at h1
  obtain ⟨_, hlen, hcell⟩ := World.cells?_some h1
  obtain ⟨xs, k, hk, hxy, _, hxl, hf⟩ := DataW.trod_struct Try.underlying40 h2
  have hx5 : xs.length = 5 := hxl
  obtain ⟨v0, v1, v2, v3, v4, rfl⟩ := svlist5 hlen
  have g0 : DataW.trod enc Try.prog W base spare held k 3 [v0] = xs[0]? := by
    have q : DataW.trod enc Try.prog W base spare held k 3 (([v0, v1, v2, v3, v4].drop 0).take (Try.prog.cellsOf 3)) = xs[0]? := hf 0 _ rfl
    rw [sv_c3] at q
    exact q
  have g1 : DataW.trod enc Try.prog W base spare held k 3 [v1] = xs[1]? := by
    have q : DataW.trod enc Try.prog W base spare held k 3 (([v0, v1, v2, v3, v4].drop 1).take (Try.prog.cellsOf 3)) = xs[1]? := hf 1 _ rfl
    rw [sv_c3] at q
    exact q
  have g2 : DataW.trod enc Try.prog W base spare held k 3 [v2] = xs[2]? := by
    have q : DataW.trod enc Try.prog W base spare held k 3 (([v0, v1, v2, v3, v4].drop 2).take (Try.prog.cellsOf 3)) = xs[2]? := hf 2 _ rfl
    rw [sv_c3] at q
    exact q
  have g3 : DataW.trod enc Try.prog W base spare held k 3 [v3] = xs[3]? := by
    have q : DataW.trod enc Try.prog W base spare held k 3 (([v0, v1, v2, v3, v4].drop 3).take (Try.prog.cellsOf 3)) = xs[3]? := hf 3 _ rfl
    rw [sv_c3] at q
    exact q
  have g4 : DataW.trod enc Try.prog W base spare held k 4 [v4] = xs[4]? := by
    have q : DataW.trod enc Try.prog W base spare held k 4 (([v0, v1, v2, v3, v4].drop 4).take (Try.prog.cellsOf 4)) = xs[4]? := hf 4 _ rfl
    rw [sv_c4] at q
    exact q
  rw [List.getElem?_eq_getElem (by omega)] at g0 g1 g2 g3 g4
  obtain ⟨z0, e0, _, _⟩ := DataW.trod_int Try.underlying3 g0
  obtain ⟨z1, e1, _, q1⟩ := DataW.trod_int Try.underlying3 g1
  obtain ⟨z2, e2, _, q2⟩ := DataW.trod_int Try.underlying3 g2
  obtain ⟨z3, e3, _, q3⟩ := DataW.trod_int Try.underlying3 g3
  obtain ⟨z4, e4, _⟩ := DataW.trod_bool Try.underlying4 g4
  simp only [List.cons.injEq, and_true] at e0 e1 e2 e3 e4
  subst e0 e1 e2 e3 e4
  refine ⟨⟨z0, z1, z2, z3, z4⟩, fun b off ha => ?_⟩
  subst ha
  have hq : ∀ j, j < 5 → W.cell? ⟨b, off + i * 5 + j, none⟩ = [Value.int .i64 z0, .int .i64 z1, .int .i64 z2, .int .i64 z3, .bool z4][j]? := fun j hj => by
    have := hcell j hj
    rw [add_add, add_plain] at this
    rw [Nat.add_assoc]
    exact this
  exact ⟨hq 0 (by omega), hq 1 (by omega), hq 2 (by omega), hq 3 (by omega), hq 4 (by omega), bounds_i64 q1, bounds_i64 q2, bounds_i64 q3⟩

/-- The script that came in, from its reading. -/
theorem saved_script {H : Type} {enc : TypeId × Value → H} {W : World} {spare : Nat → Bool} {held : Bool} {sa : Option Addr} {len cap fuel : Nat} {d : DataW H} {p : List MemPlace}
    (hf : DataW.trod enc Try.prog W 0 spare held fuel 38 [.slice sa len cap] = some (d, p)) (hsz : ∀ elems rest, d = .slice elems rest → (elems.length + rest.length) * 40 ≤ reachBytes) : StScript W sa len := by
  rcases open_slice Try.underlying38 hf with ⟨hcs, _⟩ | ⟨x, l, c, m, n, D, Pl, hcs, _, hl, hm, hmm, hx, hel⟩
  · simp only [List.cons.injEq, Value.slice.injEq, and_true] at hcs
    obtain ⟨rfl, rfl, rfl⟩ := hcs
    exact ⟨by omega, fun _ => ⟨0, 0, 0, 0, false⟩, fun j hj => by omega⟩
  · simp only [List.cons.injEq, Value.slice.injEq, and_true] at hcs
    obtain ⟨rfl, rfl, rfl⟩ := hcs
    injection hx with hx _
    have h1 := hsz _ _ hx
    have hr := reachBytes_lt
    simp only [List.length_map, List.length_range] at h1
    have hlm : len ≤ m := by rw [hmm]; split <;> omega
    have key : ∀ j, ∃ o : StD, j < len → ∀ b off, x = ⟨b, off, none⟩ → StAt W b (off + j * 5) o := fun j => by
      by_cases hj : j < len
      · obtain ⟨cs', q1, q2⟩ := hel j (by omega)
        obtain ⟨o, ho⟩ := sv_open q1 q2
        exact ⟨o, fun _ => ho⟩
      · exact ⟨⟨0, 0, 0, 0, false⟩, fun q => (hj q).elim⟩
    refine ⟨by omega, fun j => Classical.choose (key j), fun j hj => ?_⟩
    obtain ⟨b, off, spot⟩ := x
    have hspot : spot = none := by
      obtain ⟨cs', q1, _⟩ := hel 0 (by omega)
      obtain ⟨_, q3, q4⟩ := World.cells?_some q1
      have q5 := q4 0 (by rw [sv_cells]; omega)
      rw [List.getElem?_eq_getElem (by rw [q3, sv_cells]; omega)] at q5
      simpa [Addr.add] using World.cell?_spot q5
    subst hspot
    exact ⟨b, off, rfl, Classical.choose_spec (key j) hj b off rfl⟩

theorem saved_true (a0 : Option Addr) (len0 cap0 : Nat) (a1 a2 : Int) (w : World) (h : StScript w a0 len0) (w1 : (Lit.int .i64 a1).wf = true) (w2 : (Lit.int .i64 a2).wf = true) :
    Calls Try.prog 9 #[.slice a0 len0 cap0, .int .i64 a1, .int .i64 a2] w fun e w' => e = .returned (.bool true) ∧ Below w.heap.size w w' := saved_walk w a0 len0 cap0 a1 a2 (bounds_i64 w1) (bounds_i64 w2) h

/-! ### THE ROW's STEP -/
set_option maxRecDepth 100000 in
theorem saved_lifted (os : Os) (started : os.Started) (H : Type) (enc : TypeId × Value → H) :
    ReturnsInHanded {} Try.checked os 9 .any (Rows.savedSpec.pre6 enc Try.prog Try.f9 Rows.savedRow.domain false) (Rows.savedSpec.post enc Try.prog Try.f9 false true false false) := by
  refine returnsInHanded_of_change_sized (C := Try.checked) saved_own started (by kernel_rfl) Try.func9
    (ChangeSpec.witness6 (enc := enc) (C := Try.checked) false ⟨#[], #[.slice none 0 0, .int .i64 0, .int .i64 0], []⟩ 8 (by kernel_rfl) (by kernel_rfl) (by kernel_rfl) (by kernel_rfl)) ?_
  intro W base args ds gs before hval0 hW hcnd hsz0 _
  have hval : ∀ (j : Nat) t v, Try.f9.params[j]? = some t → args[j]? = some v → Value.okWide Try.prog W .any base t v := hval0
  have hsz : (DataW.weightsEach Try.prog (Try.f9.params.toList ++ Rows.savedSpec.plain.varTypes Try.prog) (ds ++ gs)).all (· ≤ reachBytes) = true := hsz0
  have hW' := hW
  obtain ⟨p, q, hA0, hV, rfl, hfz, hnd⟩ := hW
  have hA : DataW.TrodAll enc Try.prog W 0 (fun _ => true) true Try.f9.params.toList args.toList ds p := hA0
  rw [Try.params9] at hA hval hsz
  obtain ⟨v0, vs0, d0, ds0, p0, q0, hargs, rfl, rfl, h0, r0⟩ := trodAll_cons hA
  obtain ⟨v1, vs1, d1, ds1, p1, q1, rfl, rfl, rfl, h1, r1⟩ := trodAll_cons r0
  obtain ⟨v2, vs2, d2, ds2, p2, q2, rfl, rfl, rfl, h2, r2⟩ := trodAll_cons r1
  obtain ⟨rfl, rfl, rfl⟩ := trodAll_nil r2
  obtain rfl : args = #[v0, v1, v2] := by cases args; simp_all
  obtain ⟨rfl, rfl⟩ := trodVars_none hV
  obtain ⟨a0, len0, cap0, rfl⟩ := okWide_slice Try.underlying38 (hval 0 38 v0 rfl rfl)
  have k0 := h0
  have lt0 : ∀ x ∈ p0, x.block < W.heap.size := by obtain ⟨m, hm⟩ := k0; exact DataW.trod_lt m _ _ _ hm
  have w0 : StScript W a0 len0 := by
    obtain ⟨fuel, hf⟩ := h0
    refine saved_script hf (fun elems rest hd => ?_)
    subst hd
    have := sized_slice hsz (j := 0) (t := 38) (e := 40) rfl rfl Try.underlying38
    rw [sv_bytes] at this
    exact this
  obtain ⟨a1, rfl, rfl, rfl, w1⟩ := open_int Try.underlying3 (hval 1 3 v1 rfl rfl) h1
  obtain ⟨a2, rfl, rfl, rfl, w2⟩ := open_int Try.underlying3 (hval 2 3 v2 rfl rfl) h2
  clear hA0 hval0
  refine (saved_true a0 len0 cap0 a1 a2 W w0 w1 w2).mono fun e W' ⟨he, bel⟩ => ?_
  subst he
  exact ⟨_, rfl, _, _, _, [], _, [], hW', trodAll_mk1 (shut_bool Try.underlying4 _), (trodAll_cons_mk (Below.trod laidOut (by kernel_rfl) (of_decide_eq_true (by kernel_rfl)) k0 bel lt0) (trodAll_cons_mk (shut_int Try.underlying3 w1) (trodAll_cons_mk (shut_int Try.underlying3 w2) trodAll_mk0))), rfl, bel.frame _, fun h => by cases h⟩

theorem saved_over : Rows.savedRow.holds Try.pinned (OpenSpec.ofChange Rows.savedSpec) :=
  OpenClaim.holds_of_wide 9 Try.f9 rfl rfl rfl rfl rfl rfl rfl ⟨rfl, rfl, rfl, rfl, rfl⟩ rfl rfl rfl rfl rfl (by kernel_rfl) Try.func9 (by kernel_rfl)
    (of_decide_eq_true (by kernel_rfl)) (by unfold Func.isWrapper; first | (rw [if_pos (by decide +kernel)]; kernel_rfl) | (rw [if_neg (by decide +kernel)]; exact ⟨rfl, rfl⟩))
    (fun os started H enc _ => saved_lifted os started H enc)

/-- The statement. -/
theorem saved_holds : Rows.SavedSaid := saved_over
#print axioms saved_holds
end Go.Proofs.Ytfcepnhknmbaaaa
