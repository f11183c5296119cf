/- A guest's value, made and stored whole. -/
import Derived.Test.YtfcepnhknmbaaaaGreatPic
namespace Go.Proofs.YtfcepnhknmbaaaaGreat
open Go.RowKit Go.Deep

theorem run_guest (w : World) (r : Int) : (Instr.build 91 #[(0, .int .i64 r)]).run Tryz.prog w = .ok (.agg (picV (zeroPic r))) w := by kernel_rfl
theorem run_guest0 (w : World) : (Instr.build 91 #[]).run Tryz.prog w = .ok (.agg (picV (zeroPic 0))) w := by kernel_rfl
theorem run_reader (w : World) (s : ByteArray) : (Instr.build 158 #[(0, .string s)]).run Tryz.prog w = .ok (.agg #[.string s, .bool false, .nilFunc, .nilFunc, .nilFunc, .nilFunc, .nilFunc]) w := by kernel_rfl
theorem zero104 (w : World) : (zeroValue 91).run Tryz.prog w = .ok (.agg (picV (zeroPic 0))) w := (zero_of_info info104).1 w
theorem info104z : (Tryz.prog.info? 91).map (·.size) = some 641 := by kernel_rfl
theorem cell_one (P : Pic) (i : Nat) : (picCell P i).oneCell' = true := by
  rw [picCell]
  split
  · rfl
  · rw [pageCell]
    split
    · rfl
    · split <;> rfl
theorem all_one {a : Array Value} {f : Nat → Value} (h : ∀ i, i < a.size → a[i]? = some (f i)) (hf : ∀ i, (f i).oneCell' = true) : a.all (·.oneCell') = true := by
  rw [Array.all_eq_true]
  intro i hi
  have := h i hi
  rw [Array.getElem?_eq_getElem hi] at this
  injection this with this
  rw [this]
  exact hf i
theorem picV_one (P : Pic) : (picV P).all (·.oneCell') = true := all_one (f := picCell P) (fun i hi => picV_get P i (by rw [picV_size] at hi; exact hi)) (cell_one P)
theorem row_there {w : World} {b n : Nat} {t : TypeId} {f : Nat → Value} (h : w.rowIs b t n f) : w.there b 0 n := fun j hj => ⟨by rw [Nat.zero_add, h.cell hj]; rfl, h.frozen _⟩


theorem Only.setCells {S : Nat → Prop} {b : Nat} (hb : S b) {w : World} : ∀ (vs : List Value) (o : Nat) (w' : World), Only S w w' → Only S w (w'.setCells b o vs)
  | [], _, _, h => h
  | v :: r, o, _, h => Only.setCells hb r (o + 1) _ (h.setCell (p := ⟨b, o, none⟩) (fun _ => hb) v)

theorem rowIs_setCells {b n : Nat} {t : TypeId} : ∀ (vs : List Value) (o : Nat) (w : World) (f : Nat → Value), w.rowIs b t n f → (w.setCells b o vs).rowIs b t n (fun j => if o ≤ j ∧ j < o + vs.length then vs.getD (j - o) undef else f j)
  | [], o, w, f, h => h.congr (fun j _ => by rw [if_neg (fun q => by simp at q; omega)])
  | v :: r, o, w, f, h => by
    refine (rowIs_setCells r (o + 1) _ _ (h.set o v)).congr (fun j _ => ?_)
    by_cases e : o + 1 ≤ j ∧ j < o + 1 + r.length
    · rw [if_pos e, if_pos (by simp; omega)]
      obtain ⟨k, rfl⟩ : ∃ k, j = o + 1 + k := ⟨j - (o + 1), by omega⟩
      rw [show o + 1 + k - (o + 1) = k by omega, show o + 1 + k - o = k + 1 by omega]
      rfl
    · rw [if_neg e]
      by_cases e2 : j = o
      · rw [if_pos e2, if_pos (by simp; omega), e2]
        simp
      · rw [if_neg e2, if_neg (by simp; omega)]

/-- A guest's value, stored whole. -/
theorem store_pic {w : World} {b : Nat} {t : TypeId} {f : Nat → Value} (h : w.rowIs b t 641 f) (P : Pic) :
    ∃ w', (storeCells ⟨b, 0, none⟩ (picV P).toList 0).run Tryz.prog w = .ok () w' ∧ w'.rowIs b t 641 (picCell P) ∧ Only (One b) w w' := by
  have hl : (picV P).toList.length = 641 := by rw [Array.length_toList, picV_size]
  have hg := picV_get P
  have h1 := picV_one P
  generalize picV P = v at *
  refine ⟨w.setCells b 0 v.toList, ?_, ?_, Only.setCells (S := One b) rfl v.toList 0 w (Only.refl _ _)⟩
  · have := run_storeCells_cells (P := Tryz.prog) b 0 v.toList 0 w (fun j hj => by simp only [Nat.zero_add]; rw [h.cell (by omega)]; rfl) (fun j _ => h.frozen _) (fun u hu => (Array.all_eq_true_iff_forall_mem.1 h1) u (by simpa using hu))
    simpa using this
  · refine (rowIs_setCells v.toList 0 w f h).congr (fun j hj => ?_)
    rw [if_pos (by omega)]
    have := hg j hj
    rw [← Array.getElem?_toList] at this
    rw [Nat.sub_zero, List.getD_eq_getElem?_getD, this]
    rfl
theorem load_pic {w : World} {b : Nat} {t : TypeId} {P : Pic} (h : w.rowIs b t 641 (picCell P)) : (loadVar 91 ⟨b, 0, none⟩).run Tryz.prog w = .ok (.agg (picV P)) w := by
  have hr : w.rangeAt b 0 (picV P).toList := fun j v hv => by
    rw [Array.getElem?_toList] at hv
    have hj : j < 641 := by
      rcases Nat.lt_or_ge j 641 with q | q
      · exact q
      · rw [Array.getElem?_eq_none_iff.2 (by rw [picV_size]; exact q)] at hv
        cases hv
    rw [picV_get P j hj] at hv
    rw [← hv, Nat.zero_add, h.cell hj]
  have := run_loadVar_mid (P := Tryz.prog) w b 0 91 (picV P).toList _ hr Tryz.underlying91 rfl (by rw [info104z]; simp [picV_size])
  simpa using this
end Go.Proofs.YtfcepnhknmbaaaaGreat

/- A guest's zero value, as the walk spells it. -/
namespace Go.Proofs.YtfcepnhknmbaaaaGreat
open Go.RowKit Go.Deep
theorem zc104 : Tryz.zeroCells91 = picV (zeroPic 0) := by kernel_rfl
theorem zc104_size : Tryz.zeroCells91.size = 641 := by rw [zc104, picV_size]
theorem zc104_set (r : Int) : Tryz.zeroCells91.setIfInBounds 0 (.int .i64 r) = picV (zeroPic r) := by
  rw [zc104]
  have h0 := picV_get (zeroPic 0)
  have h1 := picV_get (zeroPic r)
  have s0 := picV_size (zeroPic 0)
  have s1 := picV_size (zeroPic r)
  generalize picV (zeroPic 0) = a at *
  generalize picV (zeroPic r) = b at *
  apply Array.ext_getElem?
  intro i
  rw [Array.getElem?_setIfInBounds]
  by_cases hi : i < 641
  · rw [h1 i hi]
    by_cases e : 0 = i
    · subst e
      rw [if_pos rfl, if_pos (by omega)]
      rfl
    · rw [if_neg e, h0 i hi, picCell, picCell, if_neg (by omega), if_neg (by omega)]
      rfl
  · rw [if_neg (by omega), Array.getElem?_eq_none_iff.2 (by omega), Array.getElem?_eq_none_iff.2 (by omega)]
end Go.Proofs.YtfcepnhknmbaaaaGreat
