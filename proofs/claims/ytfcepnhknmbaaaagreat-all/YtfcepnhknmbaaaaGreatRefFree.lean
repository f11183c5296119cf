/- The contract of the document's Free: how many frames are nothing. -/
import Derived.Test.YtfcepnhknmbaaaaGreatRefWalks
import Derived.OwnWalk
import Derived.WalkSpells
namespace Go.Proofs.YtfcepnhknmbaaaaGreat
open Go.RowKit Go.Deep

def addSeen (Id : Nat → Int) (seen : List Int) : Option Nat → List Int
  | none => seen
  | some b => if seen.contains (Id b) then seen else seen ++ [Id b]
def seenTo (Id : Nat → Int) (g : RG) (seen : List Int) : Nat → List Int
  | 0 => seen
  | k + 1 => addSeen Id (seenTo Id g seen k) (g.P k)
def seenL (Id : Nat → Int) (L : List RG) : List Int := L.foldl (fun s g => seenTo Id g s 64) []
def tabsL (L : List RG) : Nat := (L.map RG.tabs).sum
def RS.free (R : RS) : Int := R.n - tabsL R.L - (seenL R.Id R.L).length

theorem seenTo_len (Id : Nat → Int) (g : RG) (seen : List Int) (k : Nat) : (seenTo Id g seen k).length ≤ seen.length + k := by
  induction k with
  | zero => exact Nat.le_refl _
  | succ k ih =>
    simp only [seenTo]
    cases g.P k with
    | none => simp only [addSeen]; omega
    | some b =>
      simp only [addSeen]
      split
      · omega
      · rw [List.length_append, List.length_singleton]; omega

theorem seenL_take {Id : Nat → Int} {L : List RG} {i : Nat} (h : i < L.length) : seenL Id (L.take (i + 1)) = seenTo Id L[i] (seenL Id (L.take i)) 64 := by
  rw [List.take_succ_eq_append_getElem h]
  simp only [seenL, List.foldl_append, List.foldl_cons, List.foldl_nil]
theorem tabsL_take {L : List RG} {i : Nat} (h : i < L.length) : tabsL (L.take (i + 1)) = tabsL (L.take i) + L[i].tabs := by
  rw [List.take_succ_eq_append_getElem h]
  simp only [tabsL, List.map_append, List.sum_append, List.map_cons, List.map_nil, List.sum_cons, List.sum_nil, Nat.add_zero]
theorem tabs_le (g : RG) : g.tabs ≤ 9 := by have := rtabs_le g 8; simp only [RG.tabs]; omega
theorem tabsL_le (L : List RG) : tabsL L ≤ 9 * L.length := by
  induction L with
  | nil => exact Nat.le_refl _
  | cons g L ih =>
    have := tabs_le g
    simp only [tabsL, List.map_cons, List.sum_cons, List.length_cons] at ih ⊢
    omega
theorem seenL_len (Id : Nat → Int) (L : List RG) : ∀ i, i ≤ L.length → (seenL Id (L.take i)).length ≤ 64 * i
  | 0, _ => by simp [seenL]
  | i + 1, h => by
    have ih := seenL_len Id L i (by omega)
    rw [seenL_take (by omega)]
    have := seenTo_len Id L[i] (seenL Id (L.take i)) 64
    omega

theorem int_info : (Tryz.prog.info? 3).map (fun i => (i.zero, i.size, i.bytes)) = some (some (.int .i64 0), 1, 8) := by kernel_rfl

theorem Only.of_grown {w w1 w2 : World} {row : Option Nat} (ho : Only Nob w w1) (hg : w1.grownBy w2 row) (hr : ∀ k, row = some k → w.heap.size ≤ k) : Only Nob w w2 :=
  ⟨hg.os.trans ho.os, hg.tape.trans ho.tape, hg.output.trans ho.output, Nat.le_trans ho.size hg.size, fun k hk _ => by
    rw [hg.block k (Nat.lt_of_lt_of_le hk ho.size) (fun e => by have := hr k e.symm; omega)]
    exact ho.block k hk (fun q => q)⟩

def ints64 (l : List Int) : List Value := l.map fun x => .int .i64 x

theorem owns_shape {w : World} {base : Nat} {v : Value} {n : Nat} {xs : List Value} (h : w.ownsRow base 3 1 v n xs) : ∃ sa cap, v = .slice sa n cap ∧ ∀ j x, xs[j]? = some x → ∃ sb, sa = some ⟨sb, 0, none⟩ ∧ w.cell? ⟨sb, j, none⟩ = some x := by
  rcases h.2 with ⟨rfl, rfl⟩ | ⟨g, cap, cur, rfl, q⟩
  · refine ⟨none, 0, rfl, fun j x hj => ?_⟩
    have := h.1
    rw [List.eq_nil_of_length_eq_zero (l := xs) (by omega)] at hj
    cases hj
  · refine ⟨_, cap, rfl, fun j x hj => ⟨g, rfl, ?_⟩⟩
    have hl := h.1
    have hjl : j < xs.length := by
      rcases Nat.lt_or_ge j xs.length with q | q
      · exact q
      · rw [List.getElem?_eq_none q] at hj; cases hj
    rw [h.cellAt j (by omega), hj]

theorem contains_take {l : List Int} {x : Int} {j : Nat} (h : j < l.length) : (l.take (j + 1)).contains x = ((l.take j).contains x || (l[j] == x)) := by
  rw [List.take_succ_eq_append_getElem h, List.contains_append]
  congr 1
  rw [Bool.eq_iff_iff, List.contains_iff_mem, List.mem_singleton, beq_iff_eq]
  exact eq_comm

set_option maxRecDepth 100000 in
set_option maxHeartbeats 4000000 in
theorem rfree_any (w : World) (rb : Nat) (R : RS) (h : Refm w rb R) (hn : R.n ≤ 64) :
    Calls Tryz.prog 18 #[pt rb] w fun e w' => e = .returned (.int .i64 R.free) ∧ Only Nob w w' := by
  obtain ⟨i0, hi, hzz⟩ := Option.map_eq_some_iff.1 int_info
  simp only [Prod.mk.injEq] at hzz
  obtain ⟨hz0, hz1, hz2⟩ := hzz
  have HI := hid (And.intro hi (And.intro hz0 (And.intro hz1 hz2)))
  clear hi hz0 hz1 hz2
  have hc := h.c1
  have hc0 := h.c0
  have hm := h.many
  obtain ⟨ga, gcap, hgv⟩ : ∃ a cap, R.gv = .slice a R.L.length cap := by
    rcases h.sl.2 with ⟨q, e⟩ | ⟨g, cap, cur, hv, _⟩
    · exact ⟨none, 0, by rw [q, e]⟩
    · exact ⟨_, cap, hv⟩
  rw [hgv] at hc
  have HCELL : Hid (∀ j g, R.L[j]? = some g → ∃ sb, ga = some ⟨sb, 0, none⟩ ∧ w.cell? ⟨sb, j, none⟩ = some (pt g.gb)) := fun j g hj => by
    have hjl : j < R.L.length := by
      rcases Nat.lt_or_ge j R.L.length with q | q
      · exact q
      · rw [List.getElem?_eq_none q] at hj; cases hj
    obtain ⟨sb, cap, hv, hcell⟩ := h.slice (by omega)
    rw [hgv] at hv
    injection hv with hv _ _
    exact ⟨sb, hv, hcell j g hj⟩
  clear hgv
  go_enter Tryz.func18, Tryz.ntmps18
  go_wp2
  go_loopw [3, 4, 5] (fun s3 s4 s5 wr => ∃ i : Nat, i ≤ R.L.length ∧ s5 = .int .i64 i ∧ s3 = .int .i64 (R.n - tabsL (R.L.take i)) ∧ wr.ownsRow w.heap.size 3 1 s4 (seenL R.Id (R.L.take i)).length (ints64 (seenL R.Id (R.L.take i))) ∧ Only Nob w wr) (fun _ _ s5 _ => R.L.length - (intOf s5).toNat)
  case atStart => exact ⟨0, by omega, rfl, by simp [tabsL], World.ownsRow_nil _ _ _ _, Only.refl _ _⟩
  case round =>
    obtain ⟨i, hi, rfl, rfl, hown, hO⟩ := hrel
    have hsl := seenL_len R.Id R.L i hi
    have htl := tabsL_le (R.L.take i)
    rw [List.length_take_of_le hi] at htl
    have hwc := hO.keep (p := ⟨rb, 1, none⟩) (fun q => q) hc
    by_cases hlt : i < R.L.length
    · obtain ⟨sb, rfl, hcg⟩ := HCELL.out i _ (List.getElem?_eq_getElem hlt)
      have hgm : R.L[i] ∈ R.L := List.getElem_mem hlt
      have hcg := hO.keep (p := ⟨sb, i, none⟩) (fun q => q) hcg
      have HT := hid (tabsL_take hlt)
      have HS := hid (seenL_take (Id := R.Id) hlt)
      have hR := h.nob hO
      have htb := tabs_le R.L[i]
      generalize seenL R.Id (R.L.take i) = seen at *
      generalize tabsL (R.L.take i) = tb at *
      generalize R.L[i] = g at *
      go_wp2_with fail
      refine (rtables_any _ rb R hR g hgm).mono ?_
      rintro e w2 ⟨rfl, rfl⟩
      have HOWN := hid hown
      clear hown
      go_wp2_with fail
      go_loopw [4, 7] (fun s4 s7 wk => ∃ k : Nat, k ≤ 64 ∧ s7 = .int .i64 k ∧ wk.ownsRow w.heap.size 3 1 s4 (seenTo R.Id g seen k).length (ints64 (seenTo R.Id g seen k)) ∧ Only Nob w wk) (fun _ s7 _ => 64 - (intOf s7).toNat)
      case atStart => exact ⟨0, by omega, rfl, HOWN.out, hO⟩
      case round =>
        clear hwc hcg hR HOWN hO
        rename World => wk
        obtain ⟨k, hk, rfl, hown, hO⟩ := hrel
        have hkl := seenTo_len R.Id g seen k
        by_cases hlt2 : k < 64
        · have hR := h.nob hO
          have hcp := (hR.gpage hgm hlt2).1
          obtain ⟨sa, scap, rfl, hsc⟩ := owns_shape hown
          have HSC := hid hsc
          have HOWN := hid hown
          clear hown hsc
          cases hx : g.P k with
          | none =>
            rw [hx, ptO_none] at hcp
            have HK : Hid (seenTo R.Id g seen (k + 1) = seenTo R.Id g seen k) := by simp only [Hid, seenTo, hx, addSeen]
            clear hx
            generalize seenTo R.Id g seen k = sk at *
            go_wp2
            go_loopw [9, 10] (fun s9 s10 ws => ∃ j m : Nat, j ≤ sk.length ∧ s10 = .int .i64 j ∧ s9 = .bool true ∧ wk.drewN m = ws) (fun _ s10 _ => sk.length - (intOf s10).toNat)
            case atStart => exact ⟨0, 0, by omega, rfl, rfl, rfl⟩
            case round =>
              obtain ⟨j, m, hj, rfl, rfl, rfl⟩ := hrel
              by_cases hlt3 : j < sk.length
              · go_wp2
                go_quiet (fail)
                go_wp2
                go_roundw
                case rel => exact ⟨j + 1, _, by omega, by go_num, rfl, rfl⟩
                case measure => simp [intOf]; omega
              · go_wp2
                go_roundw
                case rel => exact ⟨k + 1, by omega, by go_num, by rw [HK.out]; exact HOWN.out, hO.drewN m⟩
                case measure => simp [intOf]; omega
          | some b =>
            rw [hx, ptO_some] at hcp
            have hpb : R.isPg b := ⟨g, hgm, k, hlt2, hx⟩
            obtain ⟨tb2, rpb⟩ := hR.ps b hpb
            have hcid : wk.cell? ⟨b, 0, none⟩ = some (.int .i64 (R.Id b)) := rpb.cell (by omega)
            have hblt := rpb.lt
            have HK : Hid (seenTo R.Id g seen (k + 1) = if (seenTo R.Id g seen k).contains (R.Id b) then seenTo R.Id g seen k else seenTo R.Id g seen k ++ [R.Id b]) := by simp only [Hid, seenTo, hx, addSeen]
            clear hx hpb rpb
            generalize seenTo R.Id g seen k = sk at *
            generalize R.Id b = idb at *
            go_wp2
            go_loopw [9, 10] (fun s9 s10 ws => ∃ j m : Nat, j ≤ sk.length ∧ s10 = .int .i64 j ∧ s9 = .bool ((sk.take j).contains idb) ∧ wk.drewN m = ws) (fun _ s10 _ => sk.length - (intOf s10).toNat)
            case atStart => exact ⟨0, 0, by omega, rfl, by simp, rfl⟩
            case round =>
              obtain ⟨j, m, hj, rfl, rfl, rfl⟩ := hrel
              by_cases hlt3 : j < sk.length
              · have HC := hid (contains_take (x := idb) hlt3)
                cases hcn : (sk.take j).contains idb with
                | true =>
                  go_wp2
                  go_quiet (fail)
                  go_wp2
                  go_roundw
                  case rel => exact ⟨j + 1, _, by omega, by go_num, by rw [HC.out, hcn]; rfl, rfl⟩
                  case measure => simp [intOf]; omega
                | false =>
                  obtain ⟨sb2, rfl, hcs⟩ := HSC.out j (.int .i64 sk[j]) (by simp [ints64, hlt3])
                  have hlj : (j : Int) < (sk.length : Int) := by omega
                  go_wp2
                  go_quiet (fail)
                  go_wp2
                  go_roundw
                  case rel => exact ⟨j + 1, _, by omega, by go_num, by rw [HC.out, hcn]; simp, rfl⟩
                  case measure => simp [intOf]; omega
              · have ej : sk.take j = sk := List.take_of_length_le (by omega)
                rw [ej]
                clear ej
                cases hcn : sk.contains idb with
                | true =>
                  have HK2 : Hid (seenTo R.Id g seen (k + 1) = sk) := by have := HK.out; rw [hcn, if_pos rfl] at this; exact this
                  go_wp2
                  go_roundw
                  case rel => exact ⟨k + 1, by omega, by go_num, by rw [HK2.out]; exact HOWN.out, hO.drewN m⟩
                  case measure => simp [intOf]; omega
                | false =>
                  have HK2 : Hid (seenTo R.Id g seen (k + 1) = sk ++ [idb]) := by have := HK.out; rw [hcn, if_neg (by simp)] at this; exact this
                  have hlt4 := hO.size
                  have hcid' : ∀ q, ((wk.drewN m).alloc q).cell? ⟨b, 0, none⟩ = some (.int .i64 idb) := fun q => by rw [World.cell?_alloc_lt _ _ _ hblt, World.cell?_drewN]; exact hcid
                  have HB : Hid (sk.length + 1 ≤ maxLen) := by unfold Hid maxLen; omega
                  have HB2 : Hid ((sk.length + 1) * 8 ≤ 140737488355328) := by unfold Hid; omega
                  have HOWN2 : Hid ((wk.drewN m).ownsRow w.heap.size 3 1 (.slice sa sk.length scap) sk.length (ints64 sk)) := HOWN.out
                  go_wp2_with (at_builtin; refine wpList_append_own_at _ rfl _ _ 73 rfl w.heap.size 3 i0 (.int .i64 0) 1 8 Tryz.underlying73 HI.out.1 HI.out.2.1 HI.out.2.2.1 HI.out.2.2.2 rfl (by decide) _ _ _ rfl (HOWN2.out.alloc _) ⟨wk.heap.size, 0, none⟩ 1 1 [.int .i64 idb] rfl rfl (cell_one_new _ _ _) (fun u hu => by simp at hu; subst hu; rfl) HB.out HB2.out (by simp; omega) ?_; intro v' w1 hown' hgrow hnil hloc)
                  have hO1 : Only Nob w w1 := Only.of_grown ((hO.drewN m).alloc _) hgrow (fun q hq => (HOWN2.out.lt q hq).1)
                  have HOWN3 : Hid (w1.ownsRow w.heap.size 3 1 v' (seenTo R.Id g seen (k + 1)).length (ints64 (seenTo R.Id g seen (k + 1)))) := by
                    rw [HK2.out, Hid, List.length_append, List.length_singleton]
                    simp only [ints64, List.map_append, List.map_cons, List.map_nil]
                    exact hown'
                  clear hown' hnil hloc hgrow
                  go_wp2
                  go_roundw
                  case rel => exact ⟨k + 1, by omega, by go_num, HOWN3.out, hO1⟩
                  case measure => simp [intOf]; omega
        · have ek : k = 64 := by omega
          rw [ek, ← HS.out] at hown
          have HOWN3 := hid hown
          clear hown ek
          go_wp2
          go_roundw
          case rel => exact ⟨i + 1, by omega, by go_num, by rw [HT.out]; go_num, HOWN3.out, hO⟩
          case measure => simp [intOf]; omega
    · have ei : i = R.L.length := by omega
      obtain ⟨sa, scap, rfl, _⟩ := owns_shape hown
      have HF : Hid (R.free = R.n - tabsL (R.L.take i) - (seenL R.Id (R.L.take i)).length) := by
        rw [ei, List.take_length]
        rfl
      clear ei hown
      generalize seenL R.Id (R.L.take i) = seen at *
      generalize tabsL (R.L.take i) = tb at *
      go_wp2
      go_ret
      exact ⟨ret_int HF.out.symm, hO⟩
end Go.Proofs.YtfcepnhknmbaaaaGreat
