/- The contract of Root. -/
import Derived.Test.YtfcepnhknmbaaaaTopA
import Derived.Test.YtfcepnhknmbaaaaTopE
namespace Go.Proofs.Ytfcepnhknmbaaaa
open Go.RowKit Go.Deep
open Go.Maps (Keyed)

def isRt (p : Int) : Bool := decide (-1 ≤ p ∧ p < 64)
def MS.rooted (S : MS) (g p : Int) : MS := { S with Rt := fun j => if j = g then p else S.Rt j }

theorem isRt_none : isRt (-1) = true := rfl
theorem isRt_page {p : Int} (h : p ≠ -1) : isRt p = isPg p := by
  simp only [isRt, isPg]
  congr 1
  apply propext
  omega

set_option maxHeartbeats 400000 in
theorem rootBad_any (w : World) (mb : Nat) (S : MS) (h : Mach w mb S) (g p : Int) (hg : In64 g) (hb : checkE S g (isRt p) ≠ 0) :
    Calls Try.prog 21 #[pt mb, .int .i64 g, .int .i64 p] w fun e w' => e = .returned (.int .i64 (checkE S g (isRt p))) ∧ Only Nob w w' := by
  by_cases hp : p = -1
  · subst hp
    rw [isRt_none] at hb ⊢
    have hb' : (checkE S g true != 0) = true := by simp [hb]
    clear hb
    go_enter Try.func21, Try.ntmps21
    go_wp2_with fail
    refine (check_any _ mb S h g hg _).mono ?_
    rintro e w1 ⟨rfl, ho⟩
    go_wp2_with fail
    go_ret
    exact ⟨rfl, ho⟩
  · rw [isRt_page hp] at hb ⊢
    have hb' : (checkE S g (isPg p) != 0) = true := by simp [hb]
    have hp' : (p == -1) = false := by simp [hp]
    clear hb
    go_enter Try.func21, Try.ntmps21
    go_wp2_with fail
    refine (isPage_any _ p).mono ?_
    rintro e w1 ⟨rfl, rfl⟩
    go_wp2_with fail
    refine (check_any _ mb S h g hg _).mono ?_
    rintro e w1 ⟨rfl, ho⟩
    go_wp2_with fail
    go_ret
    exact ⟨rfl, ho⟩

theorem put_root (S : MS) {g : Int} {r : Nat} (p : Int) (hG : S.G g = some r) : put S.gst g (some (rsd S.mp r p)) = fun j => (S.G j).map (fun r => rsd S.mp r (if j = g then p else S.Rt j)) := by
  funext j
  simp only [put, MS.gst]
  split
  · rename_i e
    rw [e, hG]
    rfl
  · rfl

set_option maxHeartbeats 1000000 in
theorem rootGood_any (w : World) (mb : Nat) (S : MS) (h : Mach w mb S) (g p : Int) (r : Nat) (hg : In64 g) (hG : S.G g = some r) (hp : isRt p = true) (hn : S.cnt < maxLen) :
    Calls Try.prog 21 #[pt mb, .int .i64 g, .int .i64 p] w fun e w' => e = .returned (.int .i64 0) ∧ Mach w' mb (S.rooted g p) ∧ Only (S.own mb) w w' := by
  have hck : ∀ b, b = true → checkE S g b = 0 := fun b hb => by simp [checkE, hG, hb]
  have HG := hid hG
  have HN := hid hn
  have HGS : Hid (S.gst g = some (rsd S.mp r (S.Rt g))) := by simp [Hid, MS.gst, hG]
  have step : ∀ w1, Only Nob w w1 → ∃ w3, (Instr.mapUpdate 78 (.map (some S.gb)) (.int .i64 g) (rsd S.mp r p)).run Try.prog (w1.alloc (.cells #[pt S.mp, .int .i64 r, .int .i64 p] 77)).drew = .ok () w3 ∧ Mach w3 mb (S.rooted g p) ∧ Only (S.own mb) w w3 := fun w1 ho => by
    have hB := h.nob (ho.alloc (.cells #[pt S.mp, .int .i64 r, .int .i64 p] 77)).drew
    obtain ⟨w3, hrun, hm3, ho3⟩ := hB.gst.store (i := g) law3 Try.underlying78 HN.out kvG_inj (key3 hg) (rsd S.mp r p)
    refine ⟨w3, hrun, ?_, ?_⟩
    · rw [HGS.out, put_root S p HG.out] at hm3
      exact hB.turnG (G' := S.G) (c' := S.cnt) (Rt' := fun j => if j = g then p else S.Rt j) hm3.tight ho3
    · exact (((ho.of_nob (S := S.own mb)).alloc _).drew).after ho3 (fun b _ hb => Or.inr (Or.inr (Or.inr (Or.inl hb))))
  have HS := hid step
  clear hG hn step
  by_cases hp1 : p = -1
  · subst hp1
    have HC := hid (hck true rfl)
    clear hck hp
    go_enter Try.func21, Try.ntmps21
    go_wp2_with fail
    refine (check_any _ mb S h g hg _).mono ?_
    rintro e w1 ⟨rfl, ho⟩
    rw [HC.out]
    have h1 := h.nob ho
    have hc1 := h1.c1
    have hrun := h1.gst.look (i := g) law3 Try.underlying78 (zero77 w1) (key3 hg)
    simp only [MS.gst, HG.out, Option.map_some, Option.getD_some] at hrun
    obtain ⟨w3, hst, hM3, hO3⟩ := HS.out w1 ho
    have hlt := h1.lt
    go_wp2_with fail
    go_region
    all_goals
      go_wp2
      go_ret
      exact ⟨rfl, hM3, hO3⟩
  · have HC := hid (hck (isPg p) (by rw [← isRt_page hp1]; exact hp))
    have hp' : (p == -1) = false := by simp [hp1]
    clear hck hp
    go_enter Try.func21, Try.ntmps21
    go_wp2_with fail
    refine (isPage_any _ p).mono ?_
    rintro e w1 ⟨rfl, rfl⟩
    go_wp2_with fail
    refine (check_any _ mb S h g hg _).mono ?_
    rintro e w1 ⟨rfl, ho⟩
    rw [HC.out]
    have h1 := h.nob ho
    have hc1 := h1.c1
    have hrun := h1.gst.look (i := g) law3 Try.underlying78 (zero77 w1) (key3 hg)
    simp only [MS.gst, HG.out, Option.map_some, Option.getD_some] at hrun
    obtain ⟨w3, hst, hM3, hO3⟩ := HS.out w1 ho
    have hlt := h1.lt
    go_wp2_with fail
    go_region
    all_goals
      go_wp2
      go_ret
      exact ⟨rfl, hM3, hO3⟩
end Go.Proofs.Ytfcepnhknmbaaaa
