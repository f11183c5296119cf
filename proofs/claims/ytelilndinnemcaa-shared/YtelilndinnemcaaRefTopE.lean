/- The contract of the document's Destroy. -/
import Derived.Test.YtelilndinnemcaaRefTopD
import Derived.Deep.RegionLaw
namespace Go.Proofs.Ytelilndinnemcaa
open Go.RowKit Go.Deep

def ptrs (L : List RG) : List Value := L.map fun g => pt g.gb
def keepL (L : List RG) (n : Int) : List RG := L.filter fun g => g.N != n
theorem keepL_take {L : List RG} {n : Int} {i : Nat} (h : i < L.length) : keepL (L.take (i + 1)) n = if L[i].N = n then keepL (L.take i) n else keepL (L.take i) n ++ [L[i]] := by
  rw [List.take_succ_eq_append_getElem h]
  simp only [keepL, List.filter_append]
  by_cases e : L[i].N = n <;> simp [e]
theorem keepL_len (L : List RG) (n : Int) : (keepL L n).length ≤ L.length := List.length_filter_le _ _
def RS.dropped (R : RS) (v : Value) (n : Int) : RS := { R with gv := v, L := keepL R.L n }
def RS.destroyCode (R : RS) (n : Int) : Int := match findFrom R.L n with | none => 4 | some _ => 0

theorem dropped_isGs {R : RS} {v : Value} {n : Int} {b : Nat} (h : (R.dropped v n).isGs b) : R.isGs b := by
  obtain ⟨g, hg, e⟩ := h
  exact ⟨g, (List.mem_filter.1 hg).1, e⟩
theorem dropped_isPg {R : RS} {v : Value} {n : Int} {b : Nat} (h : (R.dropped v n).isPg b) : R.isPg b := by
  obtain ⟨g, hg, e⟩ := h
  exact ⟨g, (List.mem_filter.1 hg).1, e⟩

theorem owns_zero {w : World} {base : Nat} {e : TypeId} {s : Nat} {v : Value} {n : Nat} {xs : List Value} (h : w.ownsRow base e s v n xs) : w.ownsRow 0 e s v n xs := by
  refine ⟨h.1, ?_⟩
  rcases h.2 with q | ⟨g, cap, cur, hv, q1, q2, q3⟩
  · exact Or.inl q
  · exact Or.inr ⟨g, cap, cur, hv, Nat.zero_le _, q2, q3⟩

theorem Refm.dropped {w w1 : World} {rb : Nat} {R : RS} (h : Refm w rb R) (ho : Only Nob w w1) {v : Value} {n : Int} (o : w1.ownsRow w.heap.size 129 1 v (keepL R.L n).length (ptrs (keepL R.L n))) : Refm (w1.setCell ⟨rb, 1, none⟩ v) rb (R.dropped v n) ∧ (∀ b, (R.dropped v n).own rb b → R.own rb b ∨ w.heap.size ≤ b) := by
  have hnew : ∀ b, v.ownBlock = some b → w.heap.size ≤ b := fun b hb => (o.lt b hb).1
  have hlt := h.lt
  have h1 := h.nob ho
  obtain ⟨t, r⟩ := h1.row
  refine ⟨⟨⟨t, (r.set 1 _).congr (fun j hj => ?_)⟩, ?_, fun g hg => ?_, fun b hb => ?_, fun e => ?_, fun q => h.n2 (dropped_isGs q), fun q => h.n3 (dropped_isPg q), fun b hb => ⟨fun q => ?_, fun q => ?_⟩, fun b hb q => h.n5 b (dropped_isGs hb) (dropped_isPg q), ?_, ?_⟩, fun b hb => ?_⟩
  · have e : j = 0 ∨ j = 1 ∨ j = 2 ∨ j = 3 := by omega
    rcases e with e | e | e | e <;> subst e <;> rfl
  · exact owns_only (owns_zero o) ((Only.refl (One rb) w1).setOne 1 v) (fun b hb e => by have := hnew b hb; have : b = rb := e; omega)
  · have hg := (List.mem_filter.1 hg).1
    obtain ⟨t, r⟩ := h1.gs g hg
    exact ⟨t, r.setOther (fun e => h.n2 ⟨g, hg, e⟩) _⟩
  · have hb := dropped_isPg hb
    obtain ⟨t, r⟩ := h1.ps b hb
    exact ⟨t, r.setOther (fun e => h.n3 (by rw [← show b = rb from e]; exact hb)) _⟩
  · have := hnew rb e; omega
  · have := hnew b hb; have := isGs_lt h (dropped_isGs q); omega
  · have := hnew b hb; have := isPg_lt h (dropped_isPg q); omega
  · exact h.nd.sublist (List.filter_sublist.map _)
  · exact Nat.le_trans (keepL_len _ _) h.many
  · rcases hb with hb | hb | hb | hb
    · exact Or.inl (Or.inl hb)
    · exact Or.inr (hnew b hb)
    · exact Or.inl (Or.inr (Or.inr (Or.inl (dropped_isGs hb))))
    · exact Or.inl (Or.inr (Or.inr (Or.inr (dropped_isPg hb))))

theorem rdestroyBad_any (w : World) (rb : Nat) (R : RS) (h : Refm w rb R) (n : Int) (hf : findFrom R.L n = none) :
    Calls Try.prog 73 #[pt rb, .int .i64 n] w fun e w' => e = .returned (.int .i64 4) ∧ w = w' := by
  have HF := hid hf
  clear hf
  go_enter Try.func73, Try.ntmps73
  go_wp2_with fail
  refine (rguest_any _ rb R h n).mono ?_
  rintro e w1 ⟨rfl, rfl⟩
  rw [HF.out]
  simp only [Option.map_none, ptO_none]
  go_wp2
  go_ret
  exact ⟨rfl, rfl⟩

set_option maxRecDepth 100000 in
set_option maxHeartbeats 4000000 in
theorem rdestroyGood_any (w : World) (rb : Nat) (R : RS) (h : Refm w rb R) (n : Int) (g0 : RG) (hf : findFrom R.L n = some g0) :
    Calls Try.prog 73 #[pt rb, .int .i64 n] w fun e w' => ∃ v, e = .returned (.int .i64 0) ∧ Refm w' rb (R.dropped v n) ∧ Only (R.own rb) w w' ∧ (∀ b, (R.dropped v n).own rb b → R.own rb b ∨ w.heap.size ≤ b) := by
  obtain ⟨i0, hi, hzz⟩ := Option.map_eq_some_iff.1 ptr_info
  simp only [Prod.mk.injEq] at hzz
  obtain ⟨hz0, hz1, hz2⟩ := hzz
  have HI := hid (And.intro hi (And.intro hz0 (And.intro hz1 hz2)))
  clear hi hz0 hz1 hz2
  have hm := h.many
  have HF := hid hf
  obtain ⟨hg0, _⟩ := findFrom_mem hf
  have hpos : 0 < R.L.length := List.length_pos_of_mem hg0
  obtain ⟨sb, cap, hgv, hcell⟩ := h.slice hpos
  have HCELL := hid hcell
  have c1 := h.c1
  rw [hgv] at c1
  have f1 := h.fz 1
  clear hf hcell hgv
  go_enter Try.func73, Try.ntmps73
  go_wp2_with fail
  refine (rguest_any _ rb R h n).mono ?_
  rintro e w1 ⟨rfl, rfl⟩
  rw [HF.out]
  simp only [Option.map_some, ptO_some]
  go_wp2
  go_loopw [6, 7] (fun s6 s7 wr => ∃ i : Nat, i ≤ R.L.length ∧ s7 = .int .i64 i ∧ wr.ownsRow w.heap.size 129 1 s6 (keepL (R.L.take i) n).length (ptrs (keepL (R.L.take i) n)) ∧ Only Nob w wr) (fun _ s7 _ => R.L.length - (intOf s7).toNat)
  case atStart => exact ⟨0, by omega, rfl, World.ownsRow_nil _ _ _ _, Only.refl _ _⟩
  case round =>
    rename World => wk
    obtain ⟨i, hi, rfl, hown, hO⟩ := hrel
    have hwc := hO.keep (p := ⟨rb, 1, none⟩) (fun q => q) c1
    have hwf : wk.frozen? ⟨rb, 1, none⟩ = false := by rw [hO.frozen (p := ⟨rb, 1, none⟩) h.lt (fun q => q)]; exact f1
    have hlen := keepL_len (R.L.take i) n
    rw [List.length_take_of_le hi] at hlen
    obtain ⟨sa, scap, hsh⟩ : ∃ sa scap, u6 = Value.slice sa (keepL (R.L.take i) n).length scap := by
      rcases hown.2 with ⟨q, e⟩ | ⟨g, cap, cur, hv, _⟩
      · exact ⟨none, 0, by rw [q, e]⟩
      · exact ⟨_, cap, hv⟩
    subst hsh
    by_cases hlt : i < R.L.length
    · have hcg := hO.keep (p := ⟨sb, i, none⟩) (fun q => q) (HCELL.out i _ (List.getElem?_eq_getElem hlt))
      have hgm : R.L[i] ∈ R.L := List.getElem_mem hlt
      have hN := hO.keep (fun q => q) (h.gN hgm)
      have HK := hid (keepL_take (n := n) hlt)
      have HOWN := hid hown
      clear hown hgm
      generalize keepL (R.L.take i) n = kl at *
      generalize R.L[i] = g at *
      by_cases hgn : g.N = n
      · have HK2 : Hid (keepL (R.L.take (i + 1)) n = kl) := by have := HK.out; rw [if_pos hgn] at this; exact this
        clear HK
        go_wp2
        go_roundw
        case rel => exact ⟨i + 1, by omega, by go_num, by rw [HK2.out]; exact HOWN.out, hO⟩
        case measure => simp [intOf]; omega
      · have HK2 : Hid (keepL (R.L.take (i + 1)) n = kl ++ [g]) := by have := HK.out; rw [if_neg hgn] at this; exact this
        clear HK
        have hlt4 := hO.size
        have HB : Hid (kl.length + 1 ≤ maxLen) := by unfold Hid maxLen; omega
        have HB2 : Hid ((kl.length + 1) * 8 ≤ 140737488355328) := by unfold Hid; omega
        go_wp2_with (at_builtin; refine wpList_append_own_at _ rfl _ _ 126 rfl w.heap.size 129 i0 (.pointer none) 1 8 Try.underlying126 HI.out.1 HI.out.2.1 HI.out.2.2.1 HI.out.2.2.2 rfl (by decide) _ _ _ rfl (HOWN.out.alloc _) ⟨wk.heap.size, 0, none⟩ 1 1 [pt g.gb] rfl rfl (cell_one_new _ _ _) (fun u hu => by simp at hu; subst hu; rfl) HB.out HB2.out (by simp; omega) ?_; intro v' w1 hown' hgrow hnil hloc)
        have hO1 : Only Nob w w1 := Only.of_grown (hO.alloc _) hgrow (fun q hq => (HOWN.out.lt q hq).1)
        have HOWN3 : Hid (w1.ownsRow w.heap.size 129 1 v' (keepL (R.L.take (i + 1)) n).length (ptrs (keepL (R.L.take (i + 1)) n))) := by
          rw [HK2.out, Hid, List.length_append, List.length_singleton]
          simp only [ptrs, List.map_append, List.map_cons, List.map_nil]
          exact hown'
        clear hown' hnil hloc hgrow
        go_wp2
        go_roundw
        case rel => exact ⟨i + 1, by omega, by go_num, HOWN3.out, hO1⟩
        case measure => simp [intOf]; omega
    · have ei : i = R.L.length := by omega
      rw [ei, List.take_length] at hown
      obtain ⟨x1, x2⟩ := h.dropped hO hown
      rw [show (keepL (R.L.take i) n) = keepL R.L n by rw [ei, List.take_length]]
      have X1 := hid x1
      have X2 := hid x2
      clear ei hown x1 x2
      go_wp2
      go_ret
      exact ⟨_, rfl, X1.out, (hO.of_nob (S := R.own rb)).setCell (p := ⟨rb, 1, none⟩) (fun _ => Or.inl rfl) _, X2.out⟩
end Go.Proofs.Ytelilndinnemcaa
