/- Proved: the Go function Turns of package cradlelaw returns true for every script, a list of steps of any length, and leaves its argument as it was; no condition. -/
import Derived.Test.YtfcepnhknmbaaaaGreatRows
import Derived.WalkKit
import Derived.ProofKit
import Derived.OpenShut
import Derived.ShutString
import Derived.ChangeOld
import Derived.Below
import Derived.SizedLaws
import Derived.Test.YtfcepnhknmbaaaaGreatLawPlayedM
namespace Go.Proofs.YtfcepnhknmbaaaaGreat
open Go.ChangeShapes Go.WideShapes Go.ChangeAt Go.RowKit Go.Deep
open Go.ChangeMaps (open_string shut_string)
set_option linter.unusedVariables false

theorem turns_own : ownKnob Tryz.prog.godebug = none := by kernel_rfl

/-- The script that came in, from its reading. -/
theorem turns_script {H : Type} {enc : TypeId × Value → H} {W : World} {spare : Nat → Bool} {held : Bool} {sa : Option Addr} {len cap fuel : Nat} {d : DataW H} {p : List MemPlace}
    (hf : DataW.trod enc Tryz.prog W 0 spare held fuel 22 [.slice sa len cap] = some (d, p)) (hsz : ∀ elems rest, d = .slice elems rest → (elems.length + rest.length) * 72 ≤ reachBytes) : Script W sa len := by
  rcases open_slice Tryz.underlying22 hf with ⟨hcs, _⟩ | ⟨x, l, c, m, n, D, Pl, hcs, _, hl, hm, hmm, hx, hel⟩
  · simp only [List.cons.injEq, Value.slice.injEq, and_true] at hcs
    obtain ⟨rfl, rfl, rfl⟩ := hcs
    exact ⟨by omega, fun _ => ⟨0, 0, 0, 0, 0, 0, false, .bool false⟩, fun j hj => by omega⟩
  · simp only [List.cons.injEq, Value.slice.injEq, and_true] at hcs
    obtain ⟨rfl, rfl, rfl⟩ := hcs
    injection hx with hx _
    have h1 := hsz _ _ hx
    have hr := reachBytes_lt
    simp only [List.length_map, List.length_range] at h1
    have hlm : len ≤ m := by rw [hmm]; split <;> omega
    have key : ∀ j, ∃ o : OpD, j < len → ∀ b off, x = ⟨b, off, none⟩ → OpAt W b (off + j * 8) o := fun j => by
      by_cases hj : j < len
      · obtain ⟨cs', q1, q2⟩ := hel j (by omega)
        obtain ⟨o, ho⟩ := op_open q1 q2
        exact ⟨o, fun _ => ho⟩
      · exact ⟨⟨0, 0, 0, 0, 0, 0, false, .bool false⟩, fun q => (hj q).elim⟩
    refine ⟨by omega, fun j => Classical.choose (key j), fun j hj => ?_⟩
    obtain ⟨b, off, spot⟩ := x
    have hspot : spot = none := by
      obtain ⟨cs', q1, _⟩ := hel 0 (by omega)
      obtain ⟨_, q3, q4⟩ := World.cells?_some q1
      have q5 := q4 0 (by rw [op_cells]; omega)
      rw [List.getElem?_eq_getElem (by rw [q3, op_cells]; omega)] at q5
      simpa [Addr.add] using World.cell?_spot q5
    subst hspot
    exact ⟨b, off, rfl, Classical.choose_spec (key j) hj b off rfl⟩

theorem turns_true (a0 : Option Addr) (len0 cap0 : Nat) (w : World) (h : Script w a0 len0) :
    Calls Tryz.prog 5 #[.slice a0 len0 cap0] w fun e w' => e = .returned (.bool true) ∧ Below w.heap.size w w' := turns_walk w a0 len0 cap0 h

/-! ### THE ROW's STEP -/
set_option maxRecDepth 100000 in
theorem turns_lifted (os : Os) (started : os.Started) (H : Type) (enc : TypeId × Value → H) :
    ReturnsInHanded {} Tryz.checked os 5 .any (Rows.turnsSpec.pre6 enc Tryz.prog Tryz.f5 Rows.turnsRow.domain false) (Rows.turnsSpec.post enc Tryz.prog Tryz.f5 false true false false) := by
  refine returnsInHanded_of_change_sized (C := Tryz.checked) turns_own started (by kernel_rfl) Tryz.func5
    (ChangeSpec.witness6 (enc := enc) (C := Tryz.checked) false ⟨#[], #[.slice none 0 0], []⟩ 8 (by kernel_rfl) (by kernel_rfl) (by kernel_rfl) (by kernel_rfl)) ?_
  intro W base args ds gs before hval0 hW hcnd hsz0 _
  have hval : ∀ (j : Nat) t v, Tryz.f5.params[j]? = some t → args[j]? = some v → Value.okWide Tryz.prog W .any base t v := hval0
  have hsz : (DataW.weightsEach Tryz.prog (Tryz.f5.params.toList ++ Rows.turnsSpec.plain.varTypes Tryz.prog) (ds ++ gs)).all (· ≤ reachBytes) = true := hsz0
  have hW' := hW
  obtain ⟨p, q, hA0, hV, rfl, hfz, hnd⟩ := hW
  have hA : DataW.TrodAll enc Tryz.prog W 0 (fun _ => true) true Tryz.f5.params.toList args.toList ds p := hA0
  rw [Tryz.params5] at hA hval hsz
  obtain ⟨v0, vs0, d0, ds0, p0, q0, hargs, rfl, rfl, h0, r0⟩ := trodAll_cons hA
  obtain ⟨rfl, rfl, rfl⟩ := trodAll_nil r0
  obtain rfl : args = #[v0] := by cases args; simp_all
  obtain ⟨rfl, rfl⟩ := trodVars_none hV
  obtain ⟨a0, len0, cap0, rfl⟩ := okWide_slice Tryz.underlying22 (hval 0 22 v0 rfl rfl)
  have k0 := h0
  have lt0 : ∀ x ∈ p0, x.block < W.heap.size := by obtain ⟨m, hm⟩ := k0; exact DataW.trod_lt m _ _ _ hm
  have w0 : Script W a0 len0 := by
    obtain ⟨fuel, hf⟩ := h0
    refine turns_script hf (fun elems rest hd => ?_)
    subst hd
    have := sized_slice hsz (j := 0) (t := 22) (e := 30) rfl rfl Tryz.underlying22
    rw [op_bytes] at this
    exact this
  clear hA0 hval0
  refine (turns_true a0 len0 cap0 W w0).mono fun e W' ⟨he, bel⟩ => ?_
  subst he
  exact ⟨_, rfl, _, _, _, [], _, [], hW', trodAll_mk1 (shut_bool Tryz.underlying4 _), (trodAll_cons_mk (Below.trod laidOut (by kernel_rfl) (of_decide_eq_true (by kernel_rfl)) k0 bel lt0) trodAll_mk0), rfl, bel.frame _, fun h => by cases h⟩

theorem turns_over : Rows.turnsRow.holds Tryz.pinned (OpenSpec.ofChange Rows.turnsSpec) :=
  OpenClaim.holds_of_wide 5 Tryz.f5 rfl rfl rfl rfl rfl rfl rfl ⟨rfl, rfl, rfl, rfl, rfl⟩ rfl rfl rfl rfl rfl (by kernel_rfl) Tryz.func5 (by kernel_rfl)
    (of_decide_eq_true (by kernel_rfl)) (by unfold Func.isWrapper; first | (rw [if_pos (by decide +kernel)]; kernel_rfl) | (rw [if_neg (by decide +kernel)]; exact ⟨rfl, rfl⟩))
    (fun os started H enc _ => turns_lifted os started H enc)

/-- The statement. -/
theorem turns_holds : Rows.TurnsSaid := turns_over
#print axioms turns_holds
end Go.Proofs.YtfcepnhknmbaaaaGreat
