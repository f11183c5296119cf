/- The contracts of New, Create, Destroy. -/
import Derived.Test.YtelilndinnemcaaMachWalks
namespace Go.Proofs.Ytelilndinnemcaa
open Go.RowKit Go.Deep
open Go.Maps (Keyed)

def MS.fresh (n mp fb gb : Nat) : MS := ⟨Mm.fresh n, mp, fb, gb, none, fun _ => none, 0, 0, fun _ => none, 0, fun _ => -1⟩

set_option maxHeartbeats 400000 in
theorem newBad_any (w : World) (n : Int) (hn : n < 4 ∨ 64 < n) :
    Calls Try.prog 27 #[.int .i64 n] w fun e w' => e = .returned (.tuple #[.pointer none, .int .i64 1]) ∧ w = w' := by
  rcases hn with h | h
  · go_enter Try.func27, Try.ntmps27
    go_wp2
    go_ret2
    exact ⟨rfl, rfl⟩
  · have h2 : ¬ n < 4 := by omega
    go_enter Try.func27, Try.ntmps27
    go_wp2
    go_ret2
    exact ⟨rfl, rfl⟩

set_option maxHeartbeats 400000 in
theorem newGood_any (w : World) (n : Int) (h4 : 4 ≤ n) (h64 : n ≤ 64) :
    Calls Try.prog 27 #[.int .i64 n] w fun e w' => ∃ mb mp fb gb, e = .returned (.tuple #[pt mb, .int .i64 0]) ∧ w.heap.size ≤ mb ∧ w.heap.size ≤ mp ∧ w.heap.size ≤ fb ∧ w.heap.size ≤ gb ∧ Mach w' mb (MS.fresh n.toNat mp fb gb) ∧ Only Nob w w' := by
  have h1 : ¬ n < 4 := by omega
  have h2 : ¬ 64 < n := by omega
  have hmm := @run_makeMap Try.prog
  go_enter Try.func27, Try.ntmps27
  go_wp2_with fail
  refine (memNew_any _ n (by omega) h64).mono ?_
  rintro e w1 ⟨mp, fb, rfl, hmp, hfb, hM, ho⟩
  go_wp2
  go_ret2
  have l1 := hM.ptr_lt
  have l2 := hM.row_lt
  refine ⟨w1.heap.size + 1, mp, fb, w1.heap.size, rfl, by have := ho.size; omega, hmp, hfb, ho.size, ?_, (ho.alloc _).alloc _⟩
  have r := World.rowIs_alloc (w1.alloc (.map #[] 0)) #[pt mp, .map (some w1.heap.size), .int .i64 0, .map none] 83 (MS.fresh n.toNat mp fb w1.heap.size).cell (fun i hi => by
    have hi : i < 4 := hi
    have e : i = 0 ∨ i = 1 ∨ i = 2 ∨ i = 3 := by omega
    rcases e with e | e | e | e <;> subst e <;> rfl)
  rw [World.size_alloc] at r
  refine ⟨⟨83, r⟩, (hM.alloc _).alloc _, (MapIs.made Try.prog 3 kvG w1).nob ((Only.refl _ _).alloc _), rfl, ?_, ?_, ?_, ?_, ?_, ?_, ?_, ?_, ?_, fun _ => rfl⟩
  all_goals simp only [MS.fresh]
  all_goals first | omega | (intro h; cases h)

set_option maxHeartbeats 400000 in
theorem createMany_any (w : World) (mb : Nat) (S : MS) (h : Mach w mb S) (hc : 4 ≤ S.cnt) (hb : S.cnt ≤ 4) :
    Calls Try.prog 28 #[pt mb] w fun e w' => e = .returned (.tuple #[.int .i64 0, .int .i64 2]) ∧ w = w' := by
  have hc1 := h.c1
  have hlen := fun ty => h.gst.len Try.underlying78 ty
  go_enter Try.func28, Try.ntmps28
  go_wp2
  go_ret2
  exact ⟨rfl, rfl⟩

set_option maxHeartbeats 400000 in
theorem createFull_any (w : World) (mb : Nat) (S : MS) (h : Mach w mb S) (hc : S.cnt < 4) (hf : S.M.free = 0) :
    Calls Try.prog 28 #[pt mb] w fun e w' => e = .returned (.tuple #[.int .i64 0, .int .i64 3]) ∧ w = w' := by
  have hc1 := h.c1
  have hc0 := h.c0
  have hlen := fun ty => h.gst.len Try.underlying78 ty
  go_enter Try.func28, Try.ntmps28
  go_wp2_with (go_at_call 35; refine (memFree_any _ h.mem).mono ?_; rintro e w' ⟨rfl, rfl⟩)
  go_ret2
  exact ⟨rfl, rfl⟩

def MS.created (S : MS) (i : Nat) : MS := { S with M := S.M.take i, G := fun j => if j = (S.last : Int) + 1 then some i else S.G j, cnt := S.cnt + 1, last := S.last + 1, Rt := fun j => if j = (S.last : Int) + 1 then -1 else S.Rt j }

def MS.newer (S : MS) : MS := { S with last := S.last + 1 }

theorem Mach.newer_c2 {w : World} {mb : Nat} {S : MS} {M : Mm} (h : Mach w mb { S.newer with M := M }) : w.cell? ⟨mb, 2, none⟩ = some (.int .i64 (S.last + 1)) := by
  have := h.c2
  simpa [MS.newer] using this

theorem put_gst (S : MS) (g : Int) (i : Nat) (x : Int) : put S.gst g (some (rsd S.mp i x)) = fun j => (if j = g then some i else S.G j).map (fun r => rsd S.mp r (if j = g then x else S.Rt j)) := by
  funext j
  simp only [put, MS.gst]
  split <;> rfl

/-- The number of the newest guest has turned. -/
theorem Mach.turnL {w : World} {mb : Nat} {S : MS} (h : Mach w mb S) (n : Nat) : Mach (w.setCell ⟨mb, 2, none⟩ (.int .i64 n)) mb { S with last := n } := by
  obtain ⟨t, r⟩ := h.row
  refine ⟨⟨t, (r.set 2 (.int .i64 n)).congr (fun j hj => ?_)⟩, h.mem.setCell (fun e => h.n1 e.symm) (fun e => h.n2 e.symm) _, h.gst.setCell (fun e => h.n3 e.symm) _, ?_, h.n1, h.n2, h.n3, h.n4, h.n5, h.n6, h.n7, h.n8, h.n9, h.kz⟩
  · have e : j = 0 ∨ j = 1 ∨ j = 2 ∨ j = 3 := by omega
    rcases e with e | e | e | e <;> subst e <;> rfl
  · have k := h.kpt
    cases e : S.kb with
    | none => rw [e] at k; exact k
    | some b =>
      rw [e] at k
      obtain ⟨c, hm⟩ := k
      exact ⟨c, hm.setCell (fun e2 => h.n4 (by rw [e, e2])) _⟩

set_option maxRecDepth 100000 in
set_option maxHeartbeats 1000000 in
theorem createGood_any (w : World) (mb : Nat) (S : MS) (h : Mach w mb S) (i : Nat) (hc : S.cnt < 4) (hf : 1 ≤ S.M.free) (hi : S.M.first = some i) (hG : S.G (S.last + 1) = none) (hl : S.last < 1000000000000000000) :
    Calls Try.prog 28 #[pt mb] w fun e w' => e = .returned (.tuple #[.int .i64 (S.last + 1), .int .i64 0]) ∧ Mach w' mb (S.created i) ∧ Only (S.own mb) w w' := by
  have hc1 := h.c1
  have hc0 := h.c0
  have hc2 := h.c2
  have hfz := h.fz 2
  have hlen := fun ty => h.gst.len Try.underlying78 ty
  have hfl := freeTo_le S.M.U S.M.n
  change S.M.free ≤ S.M.n at hfl
  have hle := h.mem.le
  have HI := hid hi
  have HG := hid hG
  have hA : Mach (w.setCell ⟨mb, 2, none⟩ (.int .i64 (S.last + 1))).drew mb S.newer := (h.turnL (S.last + 1)).nob (Only.refl Nob _).drew
  have hO : Only (S.own mb) w (w.setCell ⟨mb, 2, none⟩ (.int .i64 (S.last + 1))).drew := ((Only.refl (S.own mb) w).setCell (p := ⟨mb, 2, none⟩) (fun _ => Or.inl rfl) _).drew
  have hin : In64 ((S.last : Int) + 1) := ⟨by omega, by omega⟩
  have hn : S.cnt < maxLen := by unfold maxLen; omega
  have HN := hid hn
  clear hi hG hn
  go_enter Try.func28, Try.ntmps28
  go_wp2_with (go_at_call 35; refine (memFree_any _ h.mem).mono ?_; rintro e w' ⟨rfl, rfl⟩)
  have d0 : (w.setCell ⟨mb, 2, none⟩ (.int .i64 (S.last + 1))).drew.cell? ⟨mb, 0, none⟩ = some (pt S.mp) := hA.c0
  have d1 : (w.setCell ⟨mb, 2, none⟩ (.int .i64 (S.last + 1))).drew.cell? ⟨mb, 1, none⟩ = some (.map (some S.gb)) := hA.c1
  have d2 : (w.setCell ⟨mb, 2, none⟩ (.int .i64 (S.last + 1))).drew.cell? ⟨mb, 2, none⟩ = some (.int .i64 (S.last + 1)) := Mach.newer_c2 (M := S.M) hA
  have HIN := hid hin
  clear hl hin hc0 hc1 hc2 hfz hlen hfl hle hf hc
  go_cut [] (fun wx => Mach wx mb (S.created i) ∧ Only (S.own mb) w wx)
  case first =>
    go_region_with (go_at_call 57; refine (newSpace_any (mp := S.mp) (fb := S.fb) (M := S.M) _ i hA.mem HI.out).mono ?_; rintro e w2 ⟨rfl, hM2, ho2⟩; have hB := hA.turnM hM2 ho2; have e0 : w2.cell? ⟨mb, 0, none⟩ = some (pt S.mp) := hB.c0; have e1 : w2.cell? ⟨mb, 1, none⟩ = some (.map (some S.gb)) := hB.c1; have e2 := hB.newer_c2; have hg : MapIs Try.prog 3 kvG w2 S.gb S.cnt S.cnt S.gst := hB.gst; obtain ⟨w3, hrun, hm3, ho3⟩ := hg.store (i := (S.last : Int) + 1) law3 Try.underlying78 HN.out kvG_inj (key3 HIN.out) (rsd S.mp i (-1)))
    all_goals
      go_wp2_with fail
      go_meet
      case rel =>
        refine ⟨?_, (hO.after ho2 (fun b _ hb => Or.inr (Or.inr (Or.inl hb)))).after ho3 (fun b _ hb => Or.inr (Or.inr (Or.inr (Or.inl hb))))⟩
        have hg0 : S.gst ((S.last : Int) + 1) = none := by simp [MS.gst, HG.out]
        rw [hg0, put_gst] at hm3
        exact hB.turnG (G' := fun j => if j = (S.last : Int) + 1 then some i else S.G j) (c' := S.cnt + 1) (Rt' := fun j => if j = (S.last : Int) + 1 then -1 else S.Rt j) hm3 ho3
  case rest =>
    obtain ⟨hC, hOC⟩ := hcut
    have g2 : wc.cell? ⟨mb, 2, none⟩ = some (.int .i64 (S.last + 1)) := by
      have := hC.c2
      simpa [MS.created] using this
    go_wp2
    go_ret2
    exact ⟨rfl, hC, hOC⟩
end Go.Proofs.Ytelilndinnemcaa
