/- The contract of New. -/
import Derived.Test.YtfcepnhknmbaaaaMachWalks
namespace Go.Proofs.Ytfcepnhknmbaaaa
open Go.RowKit Go.Deep
open Go.Maps (Keyed)

def MS.fresh (n mp fb gb : Nat) : MS := ⟨Mm.fresh n, mp, fb, gb, none, fun _ => none, 0, 0, fun _ => none, 0, fun _ => -1⟩

set_option maxHeartbeats 400000 in
theorem newBad_any (w : World) (n : Int) (hn : n < 4 ∨ 64 < n) :
    Calls Try.prog 29 #[.int .i64 n] w fun e w' => e = .returned (.tuple #[.pointer none, .int .i64 1]) ∧ w = w' := by
  rcases hn with h | h
  · go_enter Try.func29, Try.ntmps29
    go_wp2
    go_ret2
    exact ⟨rfl, rfl⟩
  · have h2 : ¬ n < 4 := by omega
    go_enter Try.func29, Try.ntmps29
    go_wp2
    go_ret2
    exact ⟨rfl, rfl⟩

set_option maxHeartbeats 400000 in
theorem newGood_any (w : World) (n : Int) (h4 : 4 ≤ n) (h64 : n ≤ 64) :
    Calls Try.prog 29 #[.int .i64 n] w fun e w' => ∃ mb mp fb gb, e = .returned (.tuple #[pt mb, .int .i64 0]) ∧ w.heap.size ≤ mb ∧ w.heap.size ≤ mp ∧ w.heap.size ≤ fb ∧ w.heap.size ≤ gb ∧ Mach w' mb (MS.fresh n.toNat mp fb gb) ∧ Only Nob w w' := by
  have h1 : ¬ n < 4 := by omega
  have h2 : ¬ 64 < n := by omega
  have hmm := @run_makeMap Try.prog
  go_enter Try.func29, Try.ntmps29
  go_wp2_with fail
  refine (memNew_any _ n (by omega) h64).mono ?_
  rintro e w1 ⟨mp, fb, rfl, hmp, hfb, hM, ho⟩
  go_wp2
  go_ret2
  have l1 := hM.ptr_lt
  have l2 := hM.row_lt
  refine ⟨w1.heap.size + 1, mp, fb, w1.heap.size, rfl, by have := ho.size; omega, hmp, hfb, ho.size, ?_, (ho.alloc _).alloc _⟩
  have r := World.rowIs_alloc (w1.alloc (.map #[] 0)) #[pt mp, .map (some w1.heap.size), .int .i64 0, .map none] 83 (MS.fresh n.toNat mp fb w1.heap.size).cell (fun i hi => by
    have hi : i < 4 := hi
    have e : i = 0 ∨ i = 1 ∨ i = 2 ∨ i = 3 := by omega
    rcases e with e | e | e | e <;> subst e <;> rfl)
  rw [World.size_alloc] at r
  refine ⟨⟨83, r⟩, (hM.alloc _).alloc _, (MapIs.made Try.prog 3 kvG w1).nob ((Only.refl _ _).alloc _), rfl, ?_, ?_, ?_, ?_, ?_, ?_, ?_, ?_, ?_, fun _ => rfl⟩
  all_goals simp only [MS.fresh]
  all_goals first | omega | (intro h; cases h)

def MS.created (S : MS) (i : Nat) : MS := { S with M := S.M.take i, G := fun j => if j = (S.last : Int) + 1 then some i else S.G j, cnt := S.cnt + 1, last := S.last + 1, Rt := fun j => if j = (S.last : Int) + 1 then -1 else S.Rt j }
end Go.Proofs.Ytfcepnhknmbaaaa
