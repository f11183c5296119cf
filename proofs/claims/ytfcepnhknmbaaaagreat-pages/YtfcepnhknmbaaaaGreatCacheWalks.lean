/- The contracts of package cache at the machine's own keys and values (Find, Keep, Drop), of placesOf. -/
import Derived.Test.YtfcepnhknmbaaaaGreatTabM
import Derived.Test.YtfcepnhknmbaaaaGreatMapBase
namespace Go.Proofs.YtfcepnhknmbaaaaGreat
open Go.RowKit Go.Deep
open Go.Maps (Keyed)

abbrev kvP (i : Int × Int) : Value := .agg #[.int .i64 i.1, .int .i64 i.2]
abbrev kvG (i : Int) : Value := .int .i64 i
def In64 (x : Int) : Prop := -9223372036854775808 ≤ x ∧ x ≤ 9223372036854775807
theorem In64.wf {x : Int} (h : In64 x) : (Lit.int .i64 x).wf = true := WalkArith.wf_i64 h
theorem In64.small {x : Int} (h0 : 0 ≤ x) (h1 : x ≤ 65535) : In64 x := ⟨by omega, by omega⟩

theorem kvP_inj (i j : Int × Int) (h : kvP i = kvP j) : i = j := by
  simp only [Value.agg.injEq, Array.mk.injEq, List.cons.injEq, Value.int.injEq, true_and, and_true] at h
  exact Prod.ext h.1 h.2
theorem kvG_inj (i j : Int) (h : kvG i = kvG j) : i = j := by simpa using h

theorem law3 : Keyed Tryz.prog 3 := Go.Maps.int_keyed Tryz.underlying3
theorem laidOut : laidOutB Tryz.prog = true := by kernel_rfl
theorem law75 : Keyed Tryz.prog 99 := Keyed.of_law (deep_law_laid laidOut (m := 2) (by omega) (of_decide_eq_true (by kernel_rfl)) (by kernel_rfl) (by kernel_rfl))
theorem key3 {i : Int} (h : In64 i) : keyOf Tryz.prog 3 (kvG i) = some (.int .i64 i) := Go.Maps.keyOf_int_mk Tryz.underlying3 h.wf

theorem types_size : Tryz.prog.types.size = 188 := by kernel_rfl
theorem cells3 : Tryz.prog.cellsOf 3 = 1 := by kernel_rfl
theorem cells75 : Tryz.prog.cellsOf 99 = 2 := by kernel_rfl
theorem keyType75 : Tryz.prog.keyType 99 = true := by kernel_rfl
theorem keyLits75 {g p : Int} (hg : In64 g) (hp : In64 p) (d : Nat) : Tryz.prog.keyLits (d + 2) 99 [.int .i64 g, .int .i64 p] = some [.int .i64 g, .int .i64 p] := by
  have w1 := hg.wf
  have w2 := hp.wf
  simp [Program.keyLits, Tryz.underlying99, cells75, Tryz.underlying3, cells3, w1, w2]
theorem formed75 (g p : Int) : (kvP (g, p)).formed Tryz.prog 99 = true := by
  simp [Value.formed, Tryz.underlying99, cells75]
theorem key75 {g p : Int} (hg : In64 g) (hp : In64 p) : ∃ l, keyOf Tryz.prog 99 (kvP (g, p)) = some l := by
  refine ⟨.string (keyBytes [.int .i64 g, .int .i64 p]), ?_⟩
  have h := keyLits75 hg hp 187
  rw [show 187 + 2 = Tryz.prog.types.size + 1 by rw [types_size]] at h
  have hu := Tryz.underlying99
  unfold keyOf
  rw [hu]
  simp only [keyType75, formed75, Bool.and_self, if_true]
  show (Tryz.prog.keyLits (Tryz.prog.types.size + 1) 99 [.int .i64 g, .int .i64 p]).map _ = _
  rw [h]
  rfl

theorem zero60 (w : World) : (zeroValue 100).run Tryz.prog w = .ok (.int .u16 0) w := by kernel_rfl
theorem zero65 (w : World) : (zeroValue 93).run Tryz.prog w = .ok (.agg #[.pointer none, .int .i64 0]) w := by kernel_rfl

/-- What the cache keeps: nothing yet, or a map. -/
def Kept (w : World) (kb : Option Nat) (n : Nat) (F : Int × Int → Option Value) : Prop :=
  match kb with
  | none => F = fun _ => none
  | some b => ∃ c, MapIs Tryz.prog 99 kvP w b n c F

set_option maxHeartbeats 400000 in
theorem find_any (w : World) (b o : Nat) (kb : Option Nat) (n : Nat) (F : Int × Int → Option Value) (g p : Int) (hg : In64 g) (hp : In64 p)
  (hc : w.cell? ⟨b, o, none⟩ = some (.map kb)) (hK : Kept w kb n F) :
    Calls Tryz.prog 81 #[.pointer (some ⟨b, o, none⟩), kvP (g, p)] w fun e w' => e = .returned (.tuple #[(F (g, p)).getD (.int .u16 0), .bool (F (g, p)).isSome]) ∧ Only Nob w w' := by
  obtain ⟨l, hl⟩ := key75 hg hp
  have hblt := World.block_lt_of_cell? _ _ hc
  have hrun : ∀ m, (Instr.lookup 65 (.map kb) (.agg #[.int .i64 g, .int .i64 p]) true).run Tryz.prog ((w.alloc (.cells #[.int .i64 g, .int .i64 p] 99)).drewN m) = .ok (.tuple #[(F (g, p)).getD (.int .u16 0), .bool (F (g, p)).isSome]) ((w.alloc (.cells #[.int .i64 g, .int .i64 p] 99)).drewN m) := by
    intro m
    cases kb with
    | none =>
      have e : F = fun _ => none := hK
      rw [e]
      exact Maps.look_nil true law75 Tryz.underlying65 (zero60 _) hl
    | some kb =>
      obtain ⟨c, hm⟩ := hK
      exact (hm.nob (((Only.refl _ _).alloc _).drewN m)).look_ok (i := (g, p)) law75 Tryz.underlying65 (zero60 _) hl
  have hc' : ∀ m, ((w.alloc (.cells #[.int .i64 g, .int .i64 p] 99)).drewN m).cell? ⟨b, o, none⟩ = some (.map kb) := fun m => by
    rw [World.cell?_drewN, World.cell?_alloc_lt _ _ _ hblt, hc]
  clear hK hl
  generalize (F (g, p)).getD (.int .u16 0) = v at *
  generalize (F (g, p)).isSome = y at *
  go_enter Tryz.func81, Tryz.ntmps81
  go_wp2_with fail
  go_quiet (fail)
  go_wp2
  go_ret2
  exact ⟨rfl, ((Only.refl _ _).alloc _).drewN _⟩

/-- Blocks that Keep and Drop may turn. -/
def Two (b : Nat) (kb : Option Nat) (k : Nat) : Prop := k = b ∨ kb = some k

set_option maxHeartbeats 400000 in
theorem keepSome_any (w : World) (b o m kb : Nat) (t : TypeId) (f : Nat → Value) (n : Nat) (F : Int × Int → Option Value) (g p v : Int) (hg : In64 g) (hp : In64 p)
  (hr : w.rowIs b t m f) (ho : o < m) (hfo : f o = .map (some kb)) (hK : Kept w (some kb) n F) (hn : n < maxLen) :
    Calls Tryz.prog 83 #[.pointer (some ⟨b, o, none⟩), kvP (g, p), .int .u16 v] w fun e w' => e = .returned (.tuple #[]) ∧ Kept w' (some kb) (n + 1) (put F (g, p) (some (.int .u16 v))) ∧ Only (One kb) w w' := by
  obtain ⟨l, hl⟩ := key75 hg hp
  have hc := hr.cell ho
  rw [hfo] at hc
  have hblt := hr.lt
  have heq := fun w => run_eql_map_nil (P := Tryz.prog) w 65 99 100 (some kb) Tryz.underlying65
  obtain ⟨c, hm⟩ := hK
  have hklt := hm.lt
  obtain ⟨w2, hrun, hm2, ho2⟩ := (hm.nob (((Only.refl _ _).alloc (.cells #[.int .i64 g, .int .i64 p] 99)).drew)).store (i := (g, p)) law75 Tryz.underlying65 hn kvP_inj hl (.int .u16 v)
  clear hm hr hl hfo hn hg hp
  go_enter Tryz.func83, Tryz.ntmps83
  go_wp2
  go_region
  go_end0
  exact ⟨rfl, ⟨_, hm2⟩, ((Only.refl (One kb) w).alloc _).drew.trans ho2⟩

theorem map_alloc_one (w : World) (b o : Nat) (t : TypeId) (c : Array Value) (v : Value) :
    Only (One b) w (((w.setCell ⟨b, o, none⟩ v).alloc (.cells c t)).alloc (.map #[] 0)).drew := by
  exact ((((Only.refl (One b) w).setCell (p := ⟨b, o, none⟩) (fun _ => rfl) _).alloc _).alloc _).drew

set_option maxHeartbeats 400000 in
theorem keepNone_any (w : World) (b o m : Nat) (t : TypeId) (f : Nat → Value) (F : Int × Int → Option Value) (g p v : Int) (hg : In64 g) (hp : In64 p)
  (hr : w.rowIs b t m f) (ho : o < m) (hfo : f o = .map none) (hK : Kept w none 0 F) :
    Calls Tryz.prog 83 #[.pointer (some ⟨b, o, none⟩), kvP (g, p), .int .u16 v] w fun e w' => ∃ kb, w.heap.size ≤ kb ∧ e = .returned (.tuple #[]) ∧ Kept w' (some kb) 1 (put F (g, p) (some (.int .u16 v))) ∧ w'.rowIs b t m (fun j => if j = o then .map (some kb) else f j) ∧ Only (One b) w w' := by
  obtain ⟨l, hl⟩ := key75 hg hp
  have hc := hr.cell ho
  rw [hfo] at hc
  have hblt := hr.lt
  have hfz := hr.frozen o
  have heq := fun w => run_eql_map_nil (P := Tryz.prog) w 65 99 100 none Tryz.underlying65
  have hmm := @run_makeMap Tryz.prog
  have e : F = fun _ => none := hK
  have hm0 := MapIs.made Tryz.prog 99 kvP ((w.setCell ⟨b, o, none⟩ (.map (some (w.heap.size + 1)))).alloc (.cells #[.int .i64 g, .int .i64 p] 99))
  rw [World.size_alloc, World.size_setCell] at hm0
  have hr0 := ((hr.set o (.map (some (w.heap.size + 1)))).alloc (.cells #[.int .i64 g, .int .i64 p] 99)).alloc (.map #[] 0)
  have hm1 := hm0.nob ((Only.refl _ _).drew)
  obtain ⟨w2, hrun, hm2, ho2⟩ := hm1.store (i := (g, p)) law75 Tryz.underlying65 (by unfold maxLen; omega) kvP_inj hl (.int .u16 v)
  have hr2 := ho2.row hr0.drew (fun h => by simp [One] at h; omega)
  have HO2 := hid ho2
  rw [← e] at hm2
  have hfa : ∀ q1 q2, ((w.alloc q1).alloc q2).frozen? ⟨b, o, none⟩ = false := fun q1 q2 => by
    rw [World.frozen?_alloc_old _ _ _ (by simp; omega), World.frozen?_alloc_old _ _ _ (by simp; omega), hfz]
  have hca : ∀ q1 q2, ((w.alloc q1).alloc q2).cell? ⟨b, o, none⟩ = some (.map none) := fun q1 q2 => by
    rw [World.cell?_alloc_lt _ _ _ (by simp; omega), World.cell?_alloc_lt _ _ _ (by omega), hc]
  have hcb : ∀ q1 q2, (((w.alloc q1).alloc q2).setCell ⟨b, o, none⟩ (.map (some (w.heap.size + 1)))).cell? ⟨b, o, none⟩ = some (.map (some (w.heap.size + 1))) := fun q1 q2 =>
    World.cell?_setCell_same _ _ _ (hca q1 q2)
  clear hm0 hm1 hr hl hfo hg hp hr0 ho2 e hK
  go_enter Tryz.func83, Tryz.ntmps83
  go_wp2
  go_region
  go_end0
  refine ⟨w.heap.size + 1, by omega, rfl, ⟨_, hm2⟩, hr2, ?_⟩
  refine (map_alloc_one w b o _ _ _).after HO2.out (fun q hq h => ?_)
  simp [One] at h
  omega

def OptOne (kb : Option Nat) (k : Nat) : Prop := kb = some k

def dropTo (F : Int × Int → Option Value) (k : Nat → Int × Int) : Nat → Int × Int → Option Value
  | 0 => F
  | j + 1 => put (dropTo F k j) (k j) none

theorem kept_drop (w : World) (kb : Option Nat) (n : Nat) (F : Int × Int → Option Value) (g p : Int) (hg : In64 g) (hp : In64 p) (hK : Kept w kb n F) (ty : TypeId) :
    ∃ w', (Builtin.delete_ #[65, 99] ty #[.map kb, kvP (g, p)]).run Tryz.prog w = .ok (.tuple #[]) w' ∧ Kept w' kb n (put F (g, p) none) ∧ Only (OptOne kb) w w' := by
  obtain ⟨l, hl⟩ := key75 hg hp
  cases kb with
  | none =>
    refine ⟨w, Maps.drop_nil law75 Tryz.underlying65 hl ty, ?_, Only.refl _ _⟩
    have e : F = fun _ => none := hK
    show put F (g, p) none = fun _ => none
    funext j
    rw [e]
    simp [put]
  | some b =>
    obtain ⟨c, hm⟩ := hK
    obtain ⟨w', hrun, hm', ho⟩ := hm.drop (i := (g, p)) law75 Tryz.underlying65 kvP_inj hl ty
    exact ⟨w', hrun, ⟨_, hm'⟩, ho.mono (fun k _ h => by simp [One] at h; simp [OptOne, h])⟩

theorem Kept.nob {w w' : World} {kb : Option Nat} {n : Nat} {F : Int × Int → Option Value} (h : Kept w kb n F) (o : Only Nob w w') : Kept w' kb n F := by
  cases kb with
  | none => exact h
  | some b => obtain ⟨c, hm⟩ := h; exact ⟨c, hm.nob o⟩

set_option maxHeartbeats 1000000 in
theorem drop_any (w : World) (b o sb L cap : Nat) (kb : Option Nat) (n : Nat) (F : Int × Int → Option Value) (k : Nat → Int × Int) (hk : ∀ j, j < L → In64 (k j).1 ∧ In64 (k j).2)
  (hc : w.cell? ⟨b, o, none⟩ = some (.map kb)) (hK : Kept w kb n F) (hbk : kb ≠ some b) (hsk : kb ≠ some sb) (hL : L ≤ 64)
  (hs : ∀ j, j < L → w.cell? ⟨sb, j * 2, none⟩ = some (.int .i64 (k j).1) ∧ w.cell? ⟨sb, j * 2 + 1, none⟩ = some (.int .i64 (k j).2)) :
    Calls Tryz.prog 50 #[.pointer (some ⟨b, o, none⟩), .slice (some ⟨sb, 0, none⟩) L cap] w fun e w' => e = .returned (.tuple #[]) ∧ Kept w' kb n (dropTo F k L) ∧ Only (OptOne kb) w w' := by
  have HS := hid hs
  have HK := hid hk
  clear hs hk
  go_enter Tryz.func50, Tryz.ntmps50
  go_wp2
  go_loopw [8] (fun c wr => ∃ j : Nat, j ≤ L ∧ c = .int .i64 j ∧ Kept wr kb n (dropTo F k j) ∧ Only (OptOne kb) w wr) (fun c _ => L - (intOf c).toNat)
  case atStart => exact ⟨0, by omega, rfl, hK, Only.refl _ _⟩
  case round =>
    obtain ⟨j, hj, rfl, hKj, hOj⟩ := hrel
    by_cases hlt : j < L
    · obtain ⟨hs0, hs1⟩ := HS.out j hlt
      obtain ⟨hg, hp⟩ := HK.out j hlt
      have hc0 := hOj.keep (p := ⟨sb, j * 2, none⟩) (fun h => hsk h) hs0
      have hc1 := hOj.keep (p := ⟨sb, j * 2 + 1, none⟩) (fun h => hsk h) hs1
      have hcm := hOj.keep (p := ⟨b, o, none⟩) (fun h => hbk h) hc
      have hblt := World.block_lt_of_cell? _ _ hcm
      generalize hkj : k j = kj at *
      obtain ⟨g, p⟩ := kj
      have HKJ := hid hkj
      clear hkj
      simp only at hs0 hs1 hg hp hc0 hc1
      obtain ⟨w2, hrun, hK2, hO2⟩ := kept_drop _ kb n _ g p hg hp (hKj.nob (((Only.refl _ _).alloc (.cells #[.int .i64 g, .int .i64 p] 99)).drew)) 0
      have hcm' : ((wr.alloc (.cells #[.int .i64 g, .int .i64 p] 99)).drew).cell? ⟨b, o, none⟩ = some (.map kb) := by
        rw [World.cell?_drew, World.cell?_alloc_lt _ _ _ hblt, hcm]
      clear hs0 hs1 hg hp
      go_wp2
      go_region
      go_wp2
      go_roundw
      case rel => exact ⟨j + 1, by omega, by go_num, by simp only [dropTo]; rw [HKJ.out]; exact hK2, ((hOj.alloc _).drew).trans hO2⟩
      case measure => simp [intOf]; omega
    · have e : j = L := by omega
      subst e
      go_wp2
      go_end0
      exact ⟨rfl, hKj, hOj⟩

theorem place_info : (Tryz.prog.info? 99).map (fun i => (i.zero, i.size, i.bytes)) = some (some (.agg #[.int .i64 0, .int .i64 0]), 2, 16) := by kernel_rfl

def placeCell (g : Int) (k i : Nat) : Value := if i / 2 < k then (if i % 2 = 0 then .int .i64 g else .int .i64 (i / 2 : Nat)) else .int .i64 0

theorem made_place (j : Nat) (h : j < 128) : (madeCells #[.int .i64 0, .int .i64 0] 128)[j]? = some (placeCell 0 0 j) := by
  simp only [madeCells, Array.getElem?_map, Array.getElem?_range, h, if_true, Option.map_some, placeCell, Nat.not_lt_zero, if_false]
  have e : j % 2 = 0 ∨ j % 2 = 1 := by omega
  show some ((#[.int .i64 0, .int .i64 0] : Array Value)[j % 2]!) = _
  rcases e with e | e <;> rw [e] <;> rfl

set_option maxRecDepth 100000 in
set_option maxHeartbeats 1000000 in
theorem placesOf_any (w : World) (g : Int) :
    Calls Tryz.prog 51 #[.int .i64 g] w fun e w' => ∃ sb, w.heap.size ≤ sb ∧ e = .returned (.slice (some ⟨sb, 0, none⟩) 64 64) ∧ (∀ j : Nat, j < 64 → w'.cell? ⟨sb, j * 2, none⟩ = some (.int .i64 g) ∧ w'.cell? ⟨sb, j * 2 + 1, none⟩ = some (.int .i64 j)) ∧ Only Nob w w' := by
  obtain ⟨i, hi, hzz⟩ := Option.map_eq_some_iff.1 place_info
  simp only [Prod.mk.injEq] at hzz
  obtain ⟨hz, hs, hb⟩ := hzz
  have hmk := fun w => run_make (P := Tryz.prog) w 101 99 i _ Tryz.underlying101 hi hz .i64 .i64 64 64 (by omega) (Int.le_refl _) (by rw [hb]; omega) (by omega)
  rw [hs] at hmk
  clear hi hz hs hb
  have hr0 := World.rowIs_alloc w (madeCells #[.int .i64 0, .int .i64 0] 128) 99 (placeCell 0 0) (fun j hj => made_place j (by rw [size_madeCells] at hj; exact hj))
  rw [size_madeCells] at hr0
  have hr1 : (w.alloc (.cells (madeCells #[.int .i64 0, .int .i64 0] 128) 99)).rowIs w.heap.size 99 128 (placeCell g 0) := hr0.congr (fun j _ => by simp [placeCell])
  have HR := hid hr1
  clear hr0 hr1
  go_enter Tryz.func51, Tryz.ntmps51
  go_wp2
  go_loopw [8] (fun c wr => ∃ j : Nat, j ≤ 64 ∧ c = .int .i64 j ∧ wr.rowIs w.heap.size 99 128 (placeCell g j) ∧ Only Nob w wr) (fun c _ => 64 - (intOf c).toNat)
  case atStart => exact ⟨0, by omega, rfl, HR.out, (Only.refl _ _).alloc _⟩
  case round =>
    obtain ⟨j, hj, rfl, hRj, hOj⟩ := hrel
    by_cases hlt : j < 64
    · have hc0 := hRj.cell (i := j * 2) (by omega)
      have hc1 := hRj.cell (i := j * 2 + 1) (by omega)
      have hf0 := hRj.frozen (j * 2)
      have hf1 := hRj.frozen (j * 2 + 1)
      have hR2 := ((hRj.set (j * 2) (.int .i64 g)).set (j * 2 + 1) (.int .i64 j)).congr (g := placeCell g (j + 1)) (fun q _ => by
        simp only [placeCell]
        by_cases e1 : q = j * 2 + 1
        · rw [if_pos e1, if_pos (by omega), if_neg (by omega)]
          congr 2
          omega
        · rw [if_neg e1]
          by_cases e2 : q = j * 2
          · rw [if_pos e2, if_pos (by omega), if_pos (by omega)]
          · rw [if_neg e2]
            by_cases e3 : q / 2 < j
            · have e4 : q / 2 < j + 1 := by omega
              simp only [e3, e4, if_true]
            · have e4 : ¬ q / 2 < j + 1 := by omega
              simp only [e3, e4, if_false])
      have HR2 := hid hR2
      clear hR2
      go_wp2
      go_roundw
      case rel => exact ⟨j + 1, by omega, by go_num, HR2.out, (hOj.setCell (p := ⟨w.heap.size, j * 2, none⟩) (fun h => by simp at h) _).setCell (p := ⟨w.heap.size, j * 2 + 1, none⟩) (fun h => by simp at h) _⟩
      case measure => simp [intOf]; omega
    · have e64 : j = 64 := by omega
      have hR : wr.rowIs w.heap.size 99 128 (placeCell g 64) := by rw [e64] at hRj; exact hRj
      clear hRj e64
      go_wp2
      go_ret
      refine ⟨w.heap.size, Nat.le_refl _, rfl, fun q hq => ⟨?_, ?_⟩, hOj⟩
      · rw [hR.cell (i := q * 2) (by omega)]
        simp only [placeCell]
        rw [if_pos (by omega), if_pos (by omega)]
      · rw [hR.cell (i := q * 2 + 1) (by omega)]
        simp only [placeCell]
        rw [if_pos (by omega), if_neg (by omega), show (q * 2 + 1) / 2 = q by omega]
end Go.Proofs.YtfcepnhknmbaaaaGreat
