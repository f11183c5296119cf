/- The law Older: what its walks share. -/
import Derived.Test.YtfcepnhknmbaaaaOlderBytes
namespace Go.Proofs.Ytfcepnhknmbaaaa
open Go.RowKit Go.Deep

theorem cntF_put (H : Nat → Bool) (p : Nat) : ∀ n, cntF (fun q => if q = p then true else H q) n ≤ cntF H n + (if p < n then 1 else 0)
  | 0 => by simp [cntF]
  | n + 1 => by
    have ih := cntF_put H p n
    rw [cntF_next, cntF_next]
    by_cases e : n = p
    · subst e
      rw [if_neg (Nat.lt_irrefl _)] at ih
      have e1 : (if n < n + 1 then 1 else 0) = 1 := if_pos (Nat.lt_succ_self _)
      rw [e1]
      simp only [if_true]
      split <;> omega
    · simp only [if_neg e]
      by_cases q : p < n
      · rw [if_pos q] at ih
        have e1 : (if p < n + 1 then 1 else 0) = 1 := if_pos (by omega)
        rw [e1]
        split <;> omega
      · rw [if_neg q] at ih
        have e1 : (if p < n + 1 then 1 else 0) = 0 := if_neg (by omega)
        rw [e1]
        split <;> omega

def oldN (len2 n : Nat) : Int := if len2 = 0 then 0 else n
def oldF (len2 : Nat) (y : Nat → Int) (H : Nat → Bool) (p k : Nat) : Int := if len2 = 0 then 0 else pickI (y ((8 * cntF H p + k) % len2)) 65536
theorem oldF_bd (len2 : Nat) (y : Nat → Int) (H : Nat → Bool) (p k : Nat) : 0 ≤ oldF len2 y H p k ∧ oldF len2 y H p k ≤ 65535 := by
  rw [oldF]
  split
  · omega
  · have := pickI_bd (y ((8 * cntF H p + k) % len2)) 65536 (by omega)
    omega
def oldG (H : Nat → Bool) (f : Nat → Nat → Int) (p k j : Nat) : Int := if (j / 8 < p ∧ H (j / 8) = true) ∨ (j / 8 = p ∧ j % 8 < k) then f (j / 8) (j % 8) else 0

theorem cnt_none : ∀ n, cntF (fun _ => false) n ≤ 0
  | 0 => Nat.le_refl _
  | n + 1 => by rw [cntF_next]; simpa using cnt_none n
theorem Rows1.o {w0 w : World} {mb hb : Nat} {A : Abs} {H : Nat → Bool} (h : Rows1 w0 w mb hb A H) : Only Nob w0 w := by obtain ⟨⟨own, h⟩, _⟩ := h; exact h.o
theorem Rows2.o {w0 w : World} {mb hb gb : Nat} {A : Abs} {H : Nat → Bool} {G : Nat → Int} (h : Rows2 w0 w mb hb gb A H G) : Only Nob w0 w := by obtain ⟨⟨own, h⟩, _⟩ := h; exact h.o
theorem size_setCell' (w : World) (a : Addr) (v : Value) : (w.setCell a v).heap.size = w.heap.size := by simp [World.setCell]
theorem sum_le {l : List Nat} (h : Bys l) : ∀ i, (l.take i).sum ≤ 255 * i
  | 0 => by simp
  | i + 1 => by
    have ih := sum_le h i
    by_cases hi : i < l.length
    · have hb := bytes_bt h i
      rw [take_snoc hi, List.sum_append]
      simp
      omega
    · rw [List.take_of_length_le (by omega)] at ih ⊢
      omega
theorem oldE_bys {fl : Bool} {f : Nat → Nat → Int} (hf : ∀ p k, 0 ≤ f p k ∧ f p k ≤ 65535) {p : Nat} (hp : p < 64) : ∀ k, Bys (oldE fl f p k)
  | 0 => fun x hx => by
    cases fl <;> simp [oldE] at hx <;> omega
  | k + 1 => fun x hx => by
    have := hf p k
    rw [oldE, List.mem_append] at hx
    rcases hx with hx | hx
    · exact oldE_bys hf hp k x hx
    · cases fl <;> simp at hx <;> omega
theorem oldB_bys {fl : Bool} {H : Nat → Bool} {f : Nat → Nat → Int} (hf : ∀ p k, 0 ≤ f p k ∧ f p k ≤ 65535) : ∀ n, n ≤ 64 → Bys (oldB fl H f n)
  | 0, _ => fun x hx => by simp [oldB] at hx
  | n + 1, hn => fun x hx => by
    rw [oldB] at hx
    split at hx
    · rw [List.mem_append] at hx
      rcases hx with hx | hx
      · exact oldB_bys hf n (by omega) x hx
      · exact oldE_bys hf (by omega) 8 x hx
    · exact oldB_bys hf n (by omega) x hx
theorem old_bys {r : Int} {fl : Bool} {H : Nat → Bool} {f : Nat → Nat → Int} (hr0 : -1 ≤ r) (hr1 : r < 64) (hr : cntF H 64 < 256) (hf : ∀ p k, 0 ≤ f p k ∧ f p k ≤ 65535) : Bys (oldA r fl H f) := fun x hx => by
  rw [oldA, List.mem_append] at hx
  rcases hx with hx | hx
  · have hb : rootB r < 256 := by rw [rootB]; split <;> omega
    cases fl <;> simp [oldH] at hx <;> omega
  · exact oldB_bys hf 64 (Nat.le_refl _) x hx
theorem oldL_bys {r : Int} {fl : Bool} {H : Nat → Bool} {f : Nat → Nat → Int} (h : Bys (oldA r fl H f)) : Bys (oldL r fl H f) := fun x hx => by
  rw [oldL, List.mem_append] at hx
  rcases hx with hx | hx
  · exact h x hx
  · cases fl <;> simp [oldS, seal1, seal2] at hx <;> omega
theorem xor_all : ∀ x : Fin 256, bits BinOp.xor IntKind.u8 (x.val : Int) 1 = ((if x.val % 2 = 0 then x.val + 1 else x.val - 1 : Nat) : Int) := by decide +kernel
theorem xor_one {x : Nat} (h : x < 256) : ∃ y : Nat, bits BinOp.xor IntKind.u8 (x : Int) 1 = (y : Int) ∧ y < 256 ∧ (y = x + 1 ∨ y + 1 = x) := by
  refine ⟨_, xor_all ⟨x, h⟩, ?_, ?_⟩
  · simp only
    split <;> omega
  · simp only
    split <;> omega
theorem set_bys {l : List Nat} (h : Bys l) {i y : Nat} (hy : y < 256) : Bys (l.set i y) := fun x hx => by
  rcases List.mem_or_eq_of_mem_set hx with q | q
  · exact h x q
  · omega
theorem app_bys {l : List Nat} (h : Bys l) : Bys (l ++ [0]) := fun x hx => by
  rw [List.mem_append] at hx
  rcases hx with q | q
  · exact h x q
  · simp at q; omega
def IntRow (w : World) (a : Option Addr) (len : Nat) (z : Nat → Int) : Prop := len ≤ maxLen ∧ ∀ k, k < len → ∃ b off, a = some ⟨b, off, none⟩ ∧ w.cell? ⟨b, off + k, none⟩ = some (.int .i64 (z k)) ∧ In64 (z k)
end Go.Proofs.Ytfcepnhknmbaaaa
