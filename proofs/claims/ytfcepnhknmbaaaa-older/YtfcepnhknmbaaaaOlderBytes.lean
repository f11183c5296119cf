/- The law Older: []byte(s), a byte turned, string(b). -/
import Derived.Test.YtfcepnhknmbaaaaOlderCalls
namespace Go.Proofs.Ytfcepnhknmbaaaa
open Go.RowKit Go.Deep

/-- []byte(s): a new row with the bytes; none of them is frozen. -/
theorem old_bytes (w : World) {l : List Nat} (hb : Bys l) : ∃ w' cap, (convert 9 61 (.string (toS l))).run Try.prog w = .ok (.slice (some ⟨w.heap.size, 0, none⟩) l.length cap) w' ∧ Only Nob w w' ∧ w.heap.size < w'.heap.size ∧
    (∀ j, j < l.length → w'.cell? ⟨w.heap.size, j, none⟩ = some (.int .u8 ((bt l j : Nat) : Int))) ∧ (∀ j, j < l.length → w'.frozen? ⟨w.heap.size, j, none⟩ = false) := by
  have h := run_bytes_of_string (P := Try.prog) w 9 61 5 (toS l) Try.underlying9 Try.underlying61 Try.underlying5
  rw [toS_size] at h
  refine ⟨_, _, h, ((Only.refl Nob w).drew).alloc _, ?_, fun j hj => ?_, fun j hj => ?_⟩
  · rw [World.size_alloc]; exact Nat.lt_succ_self _
  · have e := World.cell?_alloc_mark w.drew (bytesRow (toS l) (grownCap w l.length 0 5)) 5 ((bytesRow (toS l) (grownCap w l.length 0 5)).size, (bytesRow (toS l) (grownCap w l.length 0 5)).size + 1) j
    refine Eq.trans e ?_
    have hz : j < (toS l).data.size := by have := toS_size l; simp only [ByteArray.size] at this; omega
    have hx := hb _ (List.getElem_mem hj)
    rw [bytesRow, Array.getElem?_append_left (by simpa using hz), bt_lt hj]
    simp only [toS, Array.getElem?_map, List.getElem?_toArray, List.getElem?_map, List.getElem?_eq_getElem hj, Option.map_some, Option.some.injEq, Value.int.injEq, true_and, UInt8.toNat_ofNat']
    omega
  · have hz : j < (bytesRow (toS l) (grownCap w l.length 0 5)).size := by
      have := toS_size l
      simp only [ByteArray.size] at this
      simp only [bytesRow, Array.size_append, Array.size_map]
      omega
    have e : (w.drew.alloc (.cells (bytesRow (toS l) (grownCap w l.length 0 5)) 5 ((bytesRow (toS l) (grownCap w l.length 0 5)).size, (bytesRow (toS l) (grownCap w l.length 0 5)).size + 1))).heap[w.heap.size]? = some (.cells (bytesRow (toS l) (grownCap w l.length 0 5)) 5 ((bytesRow (toS l) (grownCap w l.length 0 5)).size, (bytesRow (toS l) (grownCap w l.length 0 5)).size + 1)) := by
      show (w.heap.push _)[w.heap.size]? = _
      simp
    simp only [World.frozen?, e]
    simp
    omega

/-- A byte is turned, and the whole is a text again. -/
theorem old_turned {w : World} {g cap : Nat} {l : List Nat} (hb : Bys l) (hc : ∀ j, j < l.length → w.cell? ⟨g, j, none⟩ = some (.int .u8 ((bt l j : Nat) : Int))) {i y : Nat} (hi : i < l.length) (hy : y < 256) :
    (convert 61 9 (.slice (some ⟨g, 0, none⟩) l.length cap)).run Try.prog (w.setCell ⟨g, i, none⟩ (.int .u8 (y : Nat))) = .ok (.string (toS (l.set i y))) (w.setCell ⟨g, i, none⟩ (.int .u8 (y : Nat))) := by
  have h := run_convert_bytes_back (P := Try.prog) (w.setCell ⟨g, i, none⟩ (.int .u8 (y : Nat))) 61 9 5 ⟨g, 0, none⟩ cap ((l.set i y).map UInt8.ofNat) Try.underlying61 Try.underlying5 Try.underlying9 (fun j hj => by
    have hj : j < l.length := by simpa using hj
    have hbs : Bys (l.set i y) := fun x hx => by
      rcases List.mem_or_eq_of_mem_set hx with q | q
      · exact hb x q
      · omega
    have hl : j < (l.set i y).length := by simpa using hj
    have hx := hbs _ (List.getElem_mem hl)
    have e : (((l.set i y).map UInt8.ofNat)[j]'(by simpa using hj)).toNat = bt (l.set i y) j := by
      rw [bt_lt hl]
      simp only [List.getElem_map, UInt8.toNat_ofNat']
      omega
    rw [e, old_bt_set hi]
    rw [show (⟨g, 0, none⟩ : Addr).add j = ⟨g, j, none⟩ by simp [Addr.add]; exact fun q => q.symm]
    by_cases q : j = i
    · rw [if_pos q, q]
      exact World.cell?_setCell_same (h := hc i hi) ..
    · rw [if_neg q]
      have hne : (⟨g, i, none⟩ : Addr) ≠ ⟨g, j, none⟩ := fun e => q (by simpa using (congrArg Addr.off e).symm)
      exact (World.cell?_setCell_other (h := hne) ..).trans (hc j hj))
  simp only [List.length_map, List.length_set] at h
  exact h
end Go.Proofs.Ytfcepnhknmbaaaa
