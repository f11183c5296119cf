/- Frames that are free again, counted. -/
import Derived.Test.YtfcepnhknmbaaaaGreatAbsB
namespace Go.Proofs.YtfcepnhknmbaaaaGreat
open Go.RowKit Go.Deep

/-! Where no guest has a page, all frames but the guests' roots are free. -/
def updL (U : Nat → Int) : List Nat → Nat → Int
  | [] => U
  | r :: l => upd (updL U l) r 0

theorem updL_ne {U : Nat → Int} {j : Nat} : ∀ {l : List Nat}, j ∉ l → updL U l j = U j
  | [], _ => rfl
  | r :: l, h => by
    simp only [List.mem_cons, not_or] at h
    simp only [updL, upd]
    rw [if_neg h.1]
    exact updL_ne h.2
theorem updL_mem {U : Nat → Int} {j : Nat} : ∀ {l : List Nat}, j ∈ l → updL U l j = 0
  | r :: l, h => by
    simp only [updL, upd]
    by_cases e : j = r
    · rw [if_pos e]
    · rw [if_neg e]
      exact updL_mem ((List.mem_cons.1 h).resolve_left e)

theorem free_updL {U : Nat → Int} {n : Nat} : ∀ {l : List Nat}, l.Nodup → (∀ r ∈ l, r < n ∧ U r ≠ 0) → freeTo (updL U l) n = freeTo U n + l.length
  | [], _, _ => rfl
  | r :: l, hn, h => by
    obtain ⟨h1, h2⟩ := List.nodup_cons.1 hn
    have ih := free_updL (U := U) (n := n) h2 (fun x hx => h x (by simp [hx]))
    obtain ⟨a, b⟩ := h r (by simp)
    have := freeTo_upd (U := updL U l) (v := 0) a
    rw [updL_ne h1, if_neg b, if_pos rfl, ih] at this
    simp only [updL, List.length_cons]
    omega

theorem nodup_map_roots {G : Gs} (hI : ∀ {g g' r}, G g = some r → G g' = some r → g = g') : ∀ {L : List Int}, L.Nodup → (∀ g ∈ L, (G g).isSome = true) → (L.map fun g => (G g).getD 0).Nodup
  | [], _, _ => List.nodup_nil
  | g :: L, hn, h => by
    obtain ⟨h1, h2⟩ := List.nodup_cons.1 hn
    simp only [List.map_cons]
    refine List.nodup_cons.2 ⟨fun q => ?_, nodup_map_roots hI h2 (fun x hx => h x (by simp [hx]))⟩
    obtain ⟨g', hg', e⟩ := List.mem_map.1 q
    obtain ⟨r, hr⟩ := Option.isSome_iff_exists.1 (h g (by simp))
    obtain ⟨r', hr'⟩ := Option.isSome_iff_exists.1 (h g' (by simp [hg']))
    rw [hr, hr'] at e
    simp at e
    have : g' = g := hI hr' (by rw [hr, e])
    rw [this] at hg'
    exact h1 hg'

theorem kn_tick {A A' : Abs} (hA : A' = A ∨ A' = A.tick) : A'.kn ≤ A.kn + 1 := by
  rcases hA with rfl | rfl
  · omega
  · exact Nat.le_refl _

def pickI (c n : Int) : Int := if c < 0 then (-(c + 1)) % n else c % n
theorem pickI_bd (c n : Int) (hn : 0 < n) : 0 ≤ pickI c n ∧ pickI c n < n := by
  simp only [pickI]
  split
  · exact ⟨Int.emod_nonneg _ (by omega), Int.emod_lt_of_pos _ hn⟩
  · exact ⟨Int.emod_nonneg _ (by omega), Int.emod_lt_of_pos _ hn⟩

end Go.Proofs.YtfcepnhknmbaaaaGreat
