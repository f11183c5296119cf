/- The contract of admit: a guest that has what it is told to have; Many, Full, Good. -/
import Derived.Test.YtfcepnhknmbaaaaGreatPic
import Derived.Deep.RegionHeld3
namespace Go.Proofs.YtfcepnhknmbaaaaGreat
open Go.RowKit Go.Deep

theorem rowIs_pic {w : World} {b : Nat} {t : TypeId} {P : Pic} (h : w.rowIs b t 641 (picCell P)) : w.rangeAt b 0 (picV P).toList := fun j v hv => by
  rw [Array.getElem?_toList] at hv
  have hj : j < 641 := by
    rcases Nat.lt_or_ge j 641 with q | q
    · exact q
    · rw [Array.getElem?_eq_none_iff.2 (by rw [picV_size]; exact q)] at hv
      cases hv
  rw [picV_get P j hj] at hv
  rw [← hv, Nat.zero_add, h.cell hj]
theorem info104s (P : Pic) : (Tryz.prog.info? 91).map (·.size) = some (picV P).toList.length := by
  rw [show (Tryz.prog.info? 91).map (·.size) = some 641 by kernel_rfl]
  simp [picV_size]
theorem Only.range {S : Nat → Prop} {w w' : World} (o : Only S w w') {b n : Nat} {cs : List Value} (h : w.rangeAt b n cs) (hs : ¬ S b) : w'.rangeAt b n cs := fun j v hv => o.keep hs (h j v hv)
set_option linter.unusedSimpArgs false in
set_option maxRecDepth 100000 in
set_option maxHeartbeats 400000 in
theorem admitMany_any (w : World) (mb : Nat) (S : MS) (h : Mach w mb S) (P : Pic) (hc : 4 ≤ S.cnt) (hb : S.cnt ≤ 4) :
    Calls Tryz.prog 48 #[pt mb, .agg (picV P)] w fun e w' => e = .returned (.tuple #[.int .i64 0, .int .i64 2]) ∧ Only Nob w w' := by
  have hc1 := h.c1
  have hlt := h.lt
  have hlen := fun ty => (h.nob ((Only.refl Nob w).alloc (.cells (picV P) 91))).gst.len Tryz.underlying64 ty
  go_enter Tryz.func48, Tryz.ntmps48
  go_wp2_with fail
  go_ret2
  exact ⟨rfl, (Only.refl _ _).alloc _⟩

set_option linter.unusedSimpArgs false in
set_option maxRecDepth 100000 in
set_option maxHeartbeats 400000 in
theorem admitFull_any (w : World) (mb : Nat) (S : MS) (h : Mach w mb S) (P : Pic) (hc : S.cnt < 4) (hf : S.M.free < P.frames) :
    Calls Tryz.prog 48 #[pt mb, .agg (picV P)] w fun e w' => e = .returned (.tuple #[.int .i64 0, .int .i64 3]) ∧ Only Nob w w' := by
  have hc1 := h.c1
  have hc0 := h.c0
  have hlt := h.lt
  have hA := h.nob ((Only.refl Nob w).alloc (.cells (picV P) 91))
  have hlen := fun ty => hA.gst.len Tryz.underlying64 ty
  have hr := rowIs_pic (picRow w P 91)
  have hu := Tryz.underlying91
  have hi := info104s P
  go_enter Tryz.func48, Tryz.ntmps48
  go_wp2_with fail
  refine wp_region_held_drew (S := fun w' => w'.cell? ⟨mb, 0, none⟩ = some (pt S.mp) ∧ w'.rangeAt w.heap.size 0 (picV P).toList) (by kernel_rfl) ⟨hA.c0, hr⟩ (fun hHeld => ?_)
  refine wpAnyH_take (i := 5) (v := .agg (picV P).toList.toArray) rfl (by kernel_rfl) (by kernel_rfl) (by kernel_rfl) (fun _ _ _ h => h) (yieldsIf_load_mid (by rfl) _ _ rfl _ _ rfl _ _ (fun w hw => hw.2) hu rfl hi) hHeld ?_
  simp only [Act.put, List.setIfInBounds_toArray, List.set_cons_zero, List.set_cons_succ]
  refine wpAnyH_take (i := 0) (v := pt mb) rfl (by kernel_rfl) (by kernel_rfl) (by kernel_rfl) (fun _ _ _ h => h) (Or.inl ⟨by rfl, fun w hw => by go_simp⟩) hHeld ?_
  simp only [Act.put, List.setIfInBounds_toArray, List.set_cons_zero, List.set_cons_succ]
  refine wpAnyH_take (i := 1) (v := pt mb) rfl (by kernel_rfl) (by kernel_rfl) (by kernel_rfl) (fun _ _ _ h => h) (Or.inl ⟨by rfl, fun w hw => by go_simp⟩) hHeld ?_
  simp only [Act.put, List.setIfInBounds_toArray, List.set_cons_zero, List.set_cons_succ]
  refine wpAnyH_take (i := 2) (v := pt mb) rfl (by kernel_rfl) (by kernel_rfl) (by kernel_rfl) (fun _ _ _ h => h) (Or.inl ⟨by rfl, fun w hw => by go_simp⟩) hHeld ?_
  simp only [Act.put, List.setIfInBounds_toArray, List.set_cons_zero, List.set_cons_succ]
  refine wpAnyH_take (i := 3) (v := pt S.mp) rfl (by kernel_rfl) (by kernel_rfl) (by kernel_rfl) (fun _ _ _ h => h) (Or.inl ⟨by rfl, fun w hw => by have hw1 := hw.1; go_simp⟩) hHeld ?_
  simp only [Act.put, List.setIfInBounds_toArray, List.set_cons_zero, List.set_cons_succ]
  refine wpAnyH_ready (rs := [4]) (by kernel_rfl) (by simp) ?_
  refine AllReadyH.cons rfl (fun K hK => ?_) AllReadyH.nil
  go_simp
  refine (memFree_any _ hA.mem.drew).mono ?_
  rintro e w' ⟨rfl, rfl⟩
  refine hK.out _ _ ⟨hA.c0, hr⟩ (fun hHeld => ?_)
  clear hK K hHeld
  refine wpAnyH_ready (rs := [6]) (by kernel_rfl) (by simp) ?_
  refine AllReadyH.cons rfl (fun K hK => ?_) AllReadyH.nil
  go_simp
  refine (framesOf_any _ P).mono ?_
  rintro e w1 ⟨rfl, ho1⟩
  have ho2 : Only Nob (w.alloc (.cells (picV P) 91)) w1 := (Only.refl Nob _).drew.trans ho1
  have hA1 := hA.nob ho2
  refine hK.out _ _ ⟨hA1.c0, ho2.range hr (fun h => h)⟩ (fun hHeld => ?_)
  clear hK K hHeld
  refine wpAnyH_ready (rs := [7]) (by kernel_rfl) (by simp) ?_
  refine AllReadyH.cons rfl (fun K hK => ?_) AllReadyH.nil
  go_simp
  refine hK.out _ _ ⟨hA1.c0, ho2.range hr (fun h => h)⟩ (fun hHeld => ?_)
  clear hK K hHeld
  refine wpAnyH_done (by kernel_rfl) ?_ _
  go_wp2
  go_ret2
  exact ⟨rfl, ((Only.refl Nob w).alloc _).trans ho2⟩
theorem range_pages {w : World} {b : Nat} {P : Pic} (h : w.rangeAt b 0 (picV P).toList) : w.rangeAt b 1 (pagesV P).toList := fun j v hv => by
  rw [Array.getElem?_toList] at hv
  have hj : j < 640 := by
    rcases Nat.lt_or_ge j 640 with q | q
    · exact q
    · rw [Array.getElem?_eq_none_iff.2 (by rw [pagesV_size]; exact q)] at hv
      cases hv
  have := h (j + 1) v (by rw [Array.getElem?_toList, picV_get P _ (by omega), ← pagesV_get P j hj]; exact hv)
  rw [Nat.zero_add] at this
  rw [Nat.add_comm]
  exact this
theorem range_root {w : World} {b : Nat} {P : Pic} (h : w.rangeAt b 0 (picV P).toList) : w.cell? ⟨b, 0, none⟩ = some (.int .i64 P.root) :=
  h 0 _ (by rw [Array.getElem?_toList, picV_get P 0 (by omega)]; rfl)
theorem info102s (P : Pic) : (Tryz.prog.info? 89).map (·.size) = some (pagesV P).toList.length := by
  rw [info102]
  simp [pagesV_size]

def Mm.enter (M : Mm) (r p f : Nat) (b : Bool) : Mm := if pres (M.tbl r p) then M.entered r p f b else match M.first with
  | some t => (M.tabled r p t).entered r p f b
  | none => M
/-- What page k, if there is one, does to the frames. -/
def Pic.step (P : Pic) (r k : Nat) (M : Mm) : Mm := if P.pr k then (match M.first with
  | some f => ((M.take f).fillTo f (P.wd k) 8).enter r k f (P.wr k)
  | none => M) else M
def Pic.memTo (P : Pic) (r : Nat) (M : Mm) : Nat → Mm
  | 0 => M
  | k + 1 => P.step r k (P.memTo r M k)

/-- There are frames for page k. -/
def Pic.ready (P : Pic) (r k : Nat) (M : Mm) : Prop := P.pr k = true → ∃ f, M.first = some f ∧ f ≤ 63 ∧ r < M.n ∧
  ((pres (((M.take f).fillTo f (P.wd k) 8).tbl r k) = true ∧ numb (((M.take f).fillTo f (P.wd k) 8).tbl r k) < M.n) ∨ (pres (((M.take f).fillTo f (P.wd k) 8).tbl r k) = false ∧ ∃ t, ((M.take f).fillTo f (P.wd k) 8).first = some t))

theorem enter_any {mp fb : Nat} {M : Mm} (w : World) (r : Nat) (p : Int) (f : Nat) (b : Bool) (hM : Mem w mp fb M) (h0 : 0 ≤ p) (h1 : p < 64) (hr : r < M.n) (hf : f ≤ 63)
  (hp : (pres (M.tbl r p.toNat) = true ∧ numb (M.tbl r p.toNat) < M.n) ∨ (pres (M.tbl r p.toNat) = false ∧ ∃ t, M.first = some t)) :
    Calls Tryz.prog 58 #[sp mp r, .int .i64 p, .int .i64 f, .bool b] w fun e w' => e = .returned (.tuple #[]) ∧ Mem w' mp fb (M.enter r p.toNat f b) ∧ Only (One fb) w w' := by
  rcases hp with ⟨h2, h3⟩ | ⟨h2, t, h3⟩
  · have e : M.enter r p.toNat f b = M.entered r p.toNat f b := by simp [Mm.enter, h2]
    rw [e]
    exact enterHad_any w r p f b hM h0 h1 hr hf h2 h3
  · have e : M.enter r p.toNat f b = (M.tabled r p.toNat t).entered r p.toNat f b := by simp [Mm.enter, h2, h3]
    rw [e]
    exact enterNew_any w r p f t b hM h0 h1 hr hf h2 h3

def MS.admitted (S : MS) (i : Nat) (x : Int) (M : Mm) : MS := { S with M := M, G := fun j => if j = (S.last : Int) + 1 then some i else S.G j, cnt := S.cnt + 1, last := S.last + 1, Rt := fun j => if j = (S.last : Int) + 1 then x else S.Rt j }
def MS.newer (S : MS) : MS := { S with last := S.last + 1 }
theorem Mach.newer_c2 {w : World} {mb : Nat} {S : MS} {M : Mm} (h : Mach w mb { S.newer with M := M }) : w.cell? ⟨mb, 2, none⟩ = some (.int .i64 (S.last + 1)) := by
  have := h.c2
  simpa [MS.newer] using this
theorem put_gst (S : MS) (g : Int) (i : Nat) (x : Int) : put S.gst g (some (rsd S.mp i x)) = fun j => (if j = g then some i else S.G j).map (fun r => rsd S.mp r (if j = g then x else S.Rt j)) := by
  funext j
  simp only [put, MS.gst]
  split <;> rfl
/-- The number of the newest guest has turned. -/
theorem Mach.turnL {w : World} {mb : Nat} {S : MS} (h : Mach w mb S) (n : Nat) : Mach (w.setCell ⟨mb, 2, none⟩ (.int .i64 n)) mb { S with last := n } := by
  obtain ⟨t, r⟩ := h.row
  refine ⟨⟨t, (r.set 2 (.int .i64 n)).congr (fun j hj => ?_)⟩, h.mem.setCell (fun e => h.n1 e.symm) (fun e => h.n2 e.symm) _, h.gst.setCell (fun e => h.n3 e.symm) _, ?_, h.n1, h.n2, h.n3, h.n4, h.n5, h.n6, h.n7, h.n8, h.n9, h.kz⟩
  · have e : j = 0 ∨ j = 1 ∨ j = 2 ∨ j = 3 := by omega
    rcases e with e | e | e | e <;> subst e <;> rfl
  · have k := h.kpt
    cases e : S.kb with
    | none => rw [e] at k; exact k
    | some b =>
      rw [e] at k
      obtain ⟨c, hm⟩ := k
      exact ⟨c, hm.setCell (fun e2 => h.n4 (by rw [e, e2])) _⟩

set_option linter.unusedSimpArgs false in
set_option maxRecDepth 100000 in
set_option maxHeartbeats 4000000 in
theorem admitGood_any (w : World) (mb : Nat) (S : MS) (h : Mach w mb S) (P : Pic) (i : Nat) (hc : S.cnt < 4) (hf : P.frames ≤ S.M.free) (hfi : S.M.first = some i) (hG : S.G (S.last + 1) = none) (hl : S.last < 1000000000000000000)
  (hw : ∀ p k, p < 64 → k < 8 → 0 ≤ P.wd p k ∧ P.wd p k ≤ 65535) (hR : ∀ k, k < 64 → P.ready i k (P.memTo i (S.M.take i) k)) :
    Calls Tryz.prog 48 #[pt mb, .agg (picV P)] w fun e w' => e = .returned (.tuple #[.int .i64 (S.last + 1), .int .i64 0]) ∧ Mach w' mb (S.admitted i P.root (P.memTo i (S.M.take i) 64)) ∧ Only (S.own mb) w w' := by
  have hc1 := h.c1
  have hc0 := h.c0
  have hlt := h.lt
  have hfbl := h.mem.row_lt
  have hA := h.nob ((Only.refl Nob w).alloc (.cells (picV P) 91))
  have hlen := fun ty => hA.gst.len Tryz.underlying64 ty
  have hr := rowIs_pic (picRow w P 91)
  have hu := Tryz.underlying91
  have hi := info104s P
  have HR := hid hR
  have HW := hid hw
  have HI := hid hfi
  have HG := hid hG
  have HL := hid hl
  have HF := hid hf
  clear hR hw hfi hG hl
  have hfl := freeTo_le S.M.U S.M.n
  change S.M.free ≤ S.M.n at hfl
  have hle := h.mem.le
  go_enter Tryz.func48, Tryz.ntmps48
  go_wp2_with fail
  refine wp_region_held_drew (S := fun w' => w'.cell? ⟨mb, 0, none⟩ = some (pt S.mp) ∧ w'.rangeAt w.heap.size 0 (picV P).toList) (by kernel_rfl) ⟨hA.c0, hr⟩ (fun hHeld => ?_)
  refine wpAnyH_take (i := 5) (v := .agg (picV P).toList.toArray) rfl (by kernel_rfl) (by kernel_rfl) (by kernel_rfl) (fun _ _ _ h => h) (yieldsIf_load_mid (by rfl) _ _ rfl _ _ rfl _ _ (fun w hw => hw.2) hu rfl hi) hHeld ?_
  simp only [Act.put, List.setIfInBounds_toArray, List.set_cons_zero, List.set_cons_succ]
  refine wpAnyH_take (i := 0) (v := pt mb) rfl (by kernel_rfl) (by kernel_rfl) (by kernel_rfl) (fun _ _ _ h => h) (Or.inl ⟨by rfl, fun w hw => by go_simp⟩) hHeld ?_
  simp only [Act.put, List.setIfInBounds_toArray, List.set_cons_zero, List.set_cons_succ]
  refine wpAnyH_take (i := 1) (v := pt mb) rfl (by kernel_rfl) (by kernel_rfl) (by kernel_rfl) (fun _ _ _ h => h) (Or.inl ⟨by rfl, fun w hw => by go_simp⟩) hHeld ?_
  simp only [Act.put, List.setIfInBounds_toArray, List.set_cons_zero, List.set_cons_succ]
  refine wpAnyH_take (i := 2) (v := pt mb) rfl (by kernel_rfl) (by kernel_rfl) (by kernel_rfl) (fun _ _ _ h => h) (Or.inl ⟨by rfl, fun w hw => by go_simp⟩) hHeld ?_
  simp only [Act.put, List.setIfInBounds_toArray, List.set_cons_zero, List.set_cons_succ]
  refine wpAnyH_take (i := 3) (v := pt S.mp) rfl (by kernel_rfl) (by kernel_rfl) (by kernel_rfl) (fun _ _ _ h => h) (Or.inl ⟨by rfl, fun w hw => by have hw1 := hw.1; go_simp⟩) hHeld ?_
  simp only [Act.put, List.setIfInBounds_toArray, List.set_cons_zero, List.set_cons_succ]
  refine wpAnyH_ready (rs := [4]) (by kernel_rfl) (by simp) ?_
  refine AllReadyH.cons rfl (fun K hK => ?_) AllReadyH.nil
  go_simp
  refine (memFree_any _ hA.mem.drew).mono ?_
  rintro e w' ⟨rfl, rfl⟩
  refine hK.out _ _ ⟨hA.c0, hr⟩ (fun hHeld => ?_)
  clear hK K hHeld
  refine wpAnyH_ready (rs := [6]) (by kernel_rfl) (by simp) ?_
  refine AllReadyH.cons rfl (fun K hK => ?_) AllReadyH.nil
  go_simp
  refine (framesOf_any _ P).mono ?_
  rintro e w1 ⟨rfl, ho1⟩
  have ho2 : Only Nob (w.alloc (.cells (picV P) 91)) w1 := (Only.refl Nob _).drew.trans ho1
  have hA1 := hA.nob ho2
  refine hK.out _ _ ⟨hA1.c0, ho2.range hr (fun h => h)⟩ (fun hHeld => ?_)
  clear hK K hHeld
  refine wpAnyH_ready (rs := [7]) (by kernel_rfl) (by simp) ?_
  refine AllReadyH.cons rfl (fun K hK => ?_) AllReadyH.nil
  go_simp
  refine hK.out _ _ ⟨hA1.c0, ho2.range hr (fun h => h)⟩ (fun hHeld => ?_)
  clear hK K hHeld
  refine wpAnyH_done (by kernel_rfl) ?_ _
  clear hlen hu hi hc1 hc0 ho1
  have hf2 := HF.out
  have hd0 := hA1.c0
  have hO1 : Only Nob w w1 := ((Only.refl Nob w).alloc _).trans ho2
  have hr1 : w1.rangeAt w.heap.size 0 (picV P).toList := ho2.range hr (fun h => h)
  have hsz : w.heap.size < w1.heap.size := Nat.lt_of_lt_of_le (by simp) ho2.size
  clear hr ho2 hA hHeld
  go_wp2_with fail
  refine (newSpace_any (mp := S.mp) (fb := S.fb) (M := S.M) _ i hA1.mem HI.out).mono ?_
  rintro e w2 ⟨rfl, hM2, ho3⟩
  have hA2 := hA1.turnM hM2 ho3
  have hO2 : Only (One S.fb) w w2 := hO1.of_nob.trans ho3
  have hr2 : w2.rangeAt w.heap.size 0 (picV P).toList := ho3.range hr1 (fun h => by simp [One] at h; omega)
  have hsz2 : w1.heap.size ≤ w2.heap.size := ho3.size
  clear hA1 hd0 hr1 hM2 ho3 hO1
  go_wp2_with fail
  refine wp_load_mid 89 (.tmp 28) rfl w.heap.size 1 rfl (pagesV P).toList _ (World.rangeAt_alloc (range_pages hr2) _) Tryz.underlying89 rfl (info102s P) ?_
  go_wp2_with fail
  have hx := run_page P
  have hz : ∀ w, (zeroValue 88).run Tryz.prog w = .ok (.agg #[.bool false, .bool false, .int .u16 0, .int .u16 0, .int .u16 0, .int .u16 0, .int .u16 0, .int .u16 0, .int .u16 0, .int .u16 0]) w := fun _ => by kernel_rfl
  have hst : ∀ (k : Nat) (b : Bool), P.pr k = b → ∀ w : World, (storeCells ⟨w.heap.size, 0, none⟩ (pageV P k).toList 0).run Tryz.prog (w.alloc (.cells #[.bool false, .bool false, .int .u16 0, .int .u16 0, .int .u16 0, .int .u16 0, .int .u16 0, .int .u16 0, .int .u16 0, .int .u16 0] 88)) = .ok () (w.alloc (.cells #[.bool b, .bool (P.wr k), .int .u16 (P.wd k 0), .int .u16 (P.wd k 1), .int .u16 (P.wd k 2), .int .u16 (P.wd k 3), .int .u16 (P.wd k 4), .int .u16 (P.wd k 5), .int .u16 (P.wd k 6), .int .u16 (P.wd k 7)] 88)) := fun k b h w => by subst h; exact run_storeCells_new w 88 _ _ (by rw [info101]; rfl) rfl (pageV_one P k)
  go_loopw [30] (fun c wr => ∃ k : Nat, k ≤ 64 ∧ c = .int .i64 k ∧ Mach wr mb { S with M := P.memTo i (S.M.take i) k } ∧ Only (One S.fb) (w2.alloc (.cells #[pt S.mp, .int .i64 i] 93)) wr) (fun c _ => 64 - (intOf c).toNat)
  case atStart => exact ⟨0, by omega, rfl, hA2.nob ((Only.refl Nob _).alloc _), Only.refl _ _⟩
  case round =>
    obtain ⟨k, hk, rfl, hMk, hOk⟩ := hrel
    by_cases hlt2 : k < 64
    · have hxk := hx k hlt2
      have hstk := hst k
      clear hx hst hr2
      cases hb : P.pr k with
      | false =>
        have hstb := hstk _ hb
        have H3 : Hid (P.memTo i (S.M.take i) (k + 1) = P.memTo i (S.M.take i) k) := by simp [Hid, Pic.memTo, Pic.step, hb]
        go_wp2_with fail
        go_roundw
        case rel => exact ⟨k + 1, by omega, by go_num, by rw [H3.out]; exact hMk.nob ((Only.refl Nob _).alloc _), hOk.alloc _⟩
        case measure => simp [intOf]; omega
      | true =>
        have hstb := hstk _ hb
        obtain ⟨f, hf1, hf63, hrn, hen⟩ := HR.out k hlt2 hb
        have H3 : Hid (P.memTo i (S.M.take i) (k + 1) = (((P.memTo i (S.M.take i) k).take f).fillTo f (P.wd k) 8).enter i k f (P.wr k)) := by simp [Hid, Pic.memTo, Pic.step, hb, hf1]
        have HF1 := hid hf1
        have HEN := hid hen
        have hsb0 : wr.cell? ⟨w2.heap.size, 0, none⟩ = some (pt S.mp) := hOk.keep (p := ⟨w2.heap.size, 0, none⟩) (fun h => by simp [One] at h; omega) (by simp)
        have hsb1 : wr.cell? ⟨w2.heap.size, 1, none⟩ = some (.int .i64 i) := hOk.keep (p := ⟨w2.heap.size, 1, none⟩) (fun h => by simp [One] at h; omega) (by simp)
        have hwr : w2.heap.size + 1 ≤ wr.heap.size := by have := hOk.size; simpa using this
        clear hf1 hen
        go_wp2_with fail
        have hB : Mach (wr.alloc (.cells #[.bool true, .bool (P.wr k), .int .u16 (P.wd k 0), .int .u16 (P.wd k 1), .int .u16 (P.wd k 2), .int .u16 (P.wd k 3), .int .u16 (P.wd k 4), .int .u16 (P.wd k 5), .int .u16 (P.wd k 6), .int .u16 (P.wd k 7)] 88)) mb { S with M := P.memTo i (S.M.take i) k } := hMk.nob ((Only.refl Nob _).alloc _)
        have n1 : ¬ One S.fb w2.heap.size := fun h => by simp [One] at h; omega
        have n2 : ¬ One S.fb wr.heap.size := fun h => by simp [One] at h; omega
        have HK : Hid (∀ w3, Only (One S.fb) (wr.alloc (.cells #[.bool true, .bool (P.wr k), .int .u16 (P.wd k 0), .int .u16 (P.wd k 1), .int .u16 (P.wd k 2), .int .u16 (P.wd k 3), .int .u16 (P.wd k 4), .int .u16 (P.wd k 5), .int .u16 (P.wd k 6), .int .u16 (P.wd k 7)] 88)).drew w3 → w3.cell? ⟨w2.heap.size, 0, none⟩ = some (pt S.mp) ∧ w3.cell? ⟨w2.heap.size, 1, none⟩ = some (.int .i64 i) ∧ w3.cell? ⟨wr.heap.size, 1, none⟩ = some (.bool (P.wr k)) ∧ w3.cell? ⟨wr.heap.size, 2, none⟩ = some (.int .u16 (P.wd k 0)) ∧ w3.cell? ⟨wr.heap.size, 3, none⟩ = some (.int .u16 (P.wd k 1)) ∧ w3.cell? ⟨wr.heap.size, 4, none⟩ = some (.int .u16 (P.wd k 2)) ∧ w3.cell? ⟨wr.heap.size, 5, none⟩ = some (.int .u16 (P.wd k 3)) ∧ w3.cell? ⟨wr.heap.size, 6, none⟩ = some (.int .u16 (P.wd k 4)) ∧ w3.cell? ⟨wr.heap.size, 7, none⟩ = some (.int .u16 (P.wd k 5)) ∧ w3.cell? ⟨wr.heap.size, 8, none⟩ = some (.int .u16 (P.wd k 6)) ∧ w3.cell? ⟨wr.heap.size, 9, none⟩ = some (.int .u16 (P.wd k 7))) := fun w3 ho => by
          have hn : ∀ j, (wr.alloc (.cells #[.bool true, .bool (P.wr k), .int .u16 (P.wd k 0), .int .u16 (P.wd k 1), .int .u16 (P.wd k 2), .int .u16 (P.wd k 3), .int .u16 (P.wd k 4), .int .u16 (P.wd k 5), .int .u16 (P.wd k 6), .int .u16 (P.wd k 7)] 88)).drew.cell? ⟨wr.heap.size, j, none⟩ = (#[.bool true, .bool (P.wr k), .int .u16 (P.wd k 0), .int .u16 (P.wd k 1), .int .u16 (P.wd k 2), .int .u16 (P.wd k 3), .int .u16 (P.wd k 4), .int .u16 (P.wd k 5), .int .u16 (P.wd k 6), .int .u16 (P.wd k 7)] : Array Value)[j]? := fun j => by simp
          have ho2 : ∀ j v, wr.cell? ⟨w2.heap.size, j, none⟩ = some v → (wr.alloc (.cells #[.bool true, .bool (P.wr k), .int .u16 (P.wd k 0), .int .u16 (P.wd k 1), .int .u16 (P.wd k 2), .int .u16 (P.wd k 3), .int .u16 (P.wd k 4), .int .u16 (P.wd k 5), .int .u16 (P.wd k 6), .int .u16 (P.wd k 7)] 88)).drew.cell? ⟨w2.heap.size, j, none⟩ = some v := fun j v q => ((Only.refl Nob wr).alloc _).drew.keep (fun h => h) q
          exact ⟨ho.keep n1 (ho2 _ _ hsb0), ho.keep n1 (ho2 _ _ hsb1), ho.keep n2 (hn 1), ho.keep n2 (hn 2), ho.keep n2 (hn 3), ho.keep n2 (hn 4), ho.keep n2 (hn 5), ho.keep n2 (hn 6), ho.keep n2 (hn 7), ho.keep n2 (hn 8), ho.keep n2 (hn 9)⟩
        have hBd : Mach (wr.alloc (.cells #[.bool true, .bool (P.wr k), .int .u16 (P.wd k 0), .int .u16 (P.wd k 1), .int .u16 (P.wd k 2), .int .u16 (P.wd k 3), .int .u16 (P.wd k 4), .int .u16 (P.wd k 5), .int .u16 (P.wd k 6), .int .u16 (P.wd k 7)] 88)).drew mb { S with M := P.memTo i (S.M.take i) k } := hB.nob (Only.refl Nob _).drew
        obtain ⟨e0, e1, e2, e3, e4, e5, e6, e7, e8, e9, e10⟩ := HK.out _ (Only.refl _ _)
        clear hsb0 hsb1 hstk hstb hxk hz
        go_region_held3 (fun w' => w'.cell? ⟨w2.heap.size, 0, none⟩ = some (pt S.mp) ∧ w'.cell? ⟨w2.heap.size, 1, none⟩ = some (.int .i64 i) ∧ w'.cell? ⟨wr.heap.size, 1, none⟩ = some (.bool (P.wr k)) ∧ w'.cell? ⟨wr.heap.size, 2, none⟩ = some (.int .u16 (P.wd k 0)) ∧ w'.cell? ⟨wr.heap.size, 3, none⟩ = some (.int .u16 (P.wd k 1)) ∧ w'.cell? ⟨wr.heap.size, 4, none⟩ = some (.int .u16 (P.wd k 2)) ∧ w'.cell? ⟨wr.heap.size, 5, none⟩ = some (.int .u16 (P.wd k 3)) ∧ w'.cell? ⟨wr.heap.size, 6, none⟩ = some (.int .u16 (P.wd k 4)) ∧ w'.cell? ⟨wr.heap.size, 7, none⟩ = some (.int .u16 (P.wd k 5)) ∧ w'.cell? ⟨wr.heap.size, 8, none⟩ = some (.int .u16 (P.wd k 6)) ∧ w'.cell? ⟨wr.heap.size, 9, none⟩ = some (.int .u16 (P.wd k 7))) (go_keep)
          (first
            | (go_at_call 79; refine (fill_any _ mb { S with M := P.memTo i (S.M.take i) k } hBd f P k HF1.out (fun j hj => HW.out k j hlt2 hj)).mono ?_; rintro e w3 ⟨rfl, hM3, ho3⟩; obtain ⟨g0, g1, g2, g3, g4, g5, g6, g7, g8, g9, g10⟩ := HK.out _ ho3)
            | (go_at_call 58; refine (enter_any (mp := S.mp) (fb := S.fb) (M := ((P.memTo i (S.M.take i) k).take f).fillTo f (P.wd k) 8) _ i k f (P.wr k) hM3 (by omega) (by omega) (by rw [fillTo_n]; exact hrn) hf63 (by rw [Int.toNat_natCast, fillTo_n]; exact HEN.out)).mono ?_; rintro e w4 ⟨rfl, hM4, ho4⟩; obtain ⟨k0, k1, k2, k3, k4, k5, k6, k7, k8, k9, k10⟩ := HK.out _ (ho3.trans ho4)))
        all_goals
          rw [Int.toNat_natCast, ← H3.out] at hM4
          have hC := hB.turnM hM4 ((Only.refl (One S.fb) _).drew.trans (ho3.trans ho4))
          clear HK e0 e1 e2 e3 e4 e5 e6 e7 e8 e9 e10 g0 g1 g2 g3 g4 g5 g6 g7 g8 g9 g10 k0 k1 k2 k3 k4 k5 k6 k7 k8 k9 k10
          go_wp2_with fail
          go_roundw
          case rel => exact ⟨k + 1, by omega, by go_num, hC, (hOk.alloc _).drew.trans (ho3.trans ho4)⟩
          case measure => simp [intOf]; omega
    · have e64 : k = 64 := by omega
      subst e64
      have hwr : w2.heap.size + 1 ≤ wr.heap.size := by have := hOk.size; simpa using this
      have hsb0 : wr.cell? ⟨w2.heap.size, 0, none⟩ = some (pt S.mp) := hOk.keep (p := ⟨w2.heap.size, 0, none⟩) (fun h => by simp [One] at h; omega) (by simp)
      have hsb1 : wr.cell? ⟨w2.heap.size, 1, none⟩ = some (.int .i64 i) := hOk.keep (p := ⟨w2.heap.size, 1, none⟩) (fun h => by simp [One] at h; omega) (by simp)
      have hrt : wr.cell? ⟨w.heap.size, 0, none⟩ = some (.int .i64 P.root) := hOk.keep (p := ⟨w.heap.size, 0, none⟩) (fun h => by simp [One] at h; omega) (((Only.refl Nob w2).alloc _).keep (fun h => h) (range_root hr2))
      have hl := HL.out
      have hm0 := hMk.c0
      have hm1 := hMk.c1
      have hm2 : wr.cell? ⟨mb, 2, none⟩ = some (.int .i64 S.last) := hMk.c2
      have hfz := hMk.fz 2
      clear hx hst hz hr2
      go_wp2_with fail
      have hA3 : Mach (wr.setCell ⟨mb, 2, none⟩ (.int .i64 (S.last + 1))).drew mb { S.newer with M := P.memTo i (S.M.take i) 64 } := (hMk.turnL (S.last + 1)).nob (Only.refl Nob _).drew
      have hgl : S.gb < w.heap.size := h.gst.lt
      have hin : In64 ((S.last : Int) + 1) := ⟨by omega, by omega⟩
      have hn : S.cnt < maxLen := by unfold maxLen; omega
      have hg : MapIs Tryz.prog 3 kvG (wr.setCell ⟨mb, 2, none⟩ (.int .i64 (S.last + 1))).drew S.gb S.cnt S.cnt S.gst := hA3.gst
      obtain ⟨w4, hrun, hm4, ho4⟩ := hg.store (i := (S.last : Int) + 1) law3 Tryz.underlying64 hn kvG_inj (key3 hin) (rsd S.mp i P.root)
      have n1 : ∀ j v, wr.cell? ⟨w2.heap.size, j, none⟩ = some v → (wr.setCell ⟨mb, 2, none⟩ (.int .i64 (S.last + 1))).drew.cell? ⟨w2.heap.size, j, none⟩ = some v := fun j v q => by
        show (wr.setCell ⟨mb, 2, none⟩ (.int .i64 (S.last + 1))).cell? ⟨w2.heap.size, j, none⟩ = some v
        rw [World.cell?_setCell_other _ _ _ _ (fun e => by injection e with e1; omega)]
        exact q
      have n2 : (wr.setCell ⟨mb, 2, none⟩ (.int .i64 (S.last + 1))).drew.cell? ⟨w.heap.size, 0, none⟩ = some (.int .i64 P.root) := by
        show (wr.setCell ⟨mb, 2, none⟩ (.int .i64 (S.last + 1))).cell? ⟨w.heap.size, 0, none⟩ = some _
        rw [World.cell?_setCell_other _ _ _ _ (fun e => by injection e with e1; omega)]
        exact hrt
      have m0 : (wr.setCell ⟨mb, 2, none⟩ (.int .i64 (S.last + 1))).drew.cell? ⟨mb, 1, none⟩ = some (.map (some S.gb)) := hA3.c1
      have m1 : (wr.setCell ⟨mb, 2, none⟩ (.int .i64 (S.last + 1))).drew.cell? ⟨mb, 2, none⟩ = some (.int .i64 (S.last + 1)) := hA3.newer_c2
      have m4 := n2
      have m2 := n1 _ _ hsb0
      have m3 := n1 _ _ hsb1
      have p0 := ho4.keep (p := ⟨mb, 1, none⟩) (fun q => h.n3 q) m0
      have p1 := ho4.keep (p := ⟨mb, 2, none⟩) (fun q => h.n3 q) m1
      have p2 := ho4.keep (p := ⟨w2.heap.size, 0, none⟩) (fun h => by simp [One] at h; omega) m2
      have p3 := ho4.keep (p := ⟨w2.heap.size, 1, none⟩) (fun h => by simp [One] at h; omega) m3
      have p4 := ho4.keep (p := ⟨w.heap.size, 0, none⟩) (fun h => by simp [One] at h; omega) n2
      have HC : Hid (Mach w4 mb (S.admitted i P.root (P.memTo i (S.M.take i) 64)) ∧ Only (S.own mb) w w4) := by
        refine ⟨?_, ?_⟩
        · have hg0 : S.gst ((S.last : Int) + 1) = none := by simp [MS.gst, HG.out]
          rw [hg0, put_gst] at hm4
          exact hA3.turnG (G' := fun j => if j = (S.last : Int) + 1 then some i else S.G j) (c' := S.cnt + 1) (Rt' := fun j => if j = (S.last : Int) + 1 then P.root else S.Rt j) hm4 ho4
        · have o1 : Only (S.own mb) w wr := (hO2.mono (fun k _ hk => Or.inr (Or.inr (Or.inl hk)))).after (((Only.refl (One S.fb) w2).alloc _).trans hOk) (fun b _ hb => Or.inr (Or.inr (Or.inl hb)))
          exact ((o1.setCell (p := ⟨mb, 2, none⟩) (fun _ => Or.inl rfl) _).drew).after ho4 (fun b _ hb => Or.inr (Or.inr (Or.inr (Or.inl hb))))
      clear hA3 hg hm4 ho4 n1 n2 hsb0 hsb1 hrt hm0 hm1 hm2 hfz hMk hOk
      go_region_held3 (fun w' => w'.cell? ⟨mb, 1, none⟩ = some (.map (some S.gb)) ∧ w'.cell? ⟨mb, 2, none⟩ = some (.int .i64 (S.last + 1)) ∧ w'.cell? ⟨w2.heap.size, 0, none⟩ = some (pt S.mp) ∧ w'.cell? ⟨w2.heap.size, 1, none⟩ = some (.int .i64 i) ∧ w'.cell? ⟨w.heap.size, 0, none⟩ = some (.int .i64 P.root)) (go_keep) (fail)
      all_goals
        go_wp2_with fail
        go_ret2
        exact ⟨rfl, HC.out⟩

theorem run_blank (w : World) : (Instr.build 91 #[(0, .int .i64 (-1))]).run Tryz.prog w = .ok (.agg (picV (zeroPic (-1)))) w := by kernel_rfl

set_option maxRecDepth 100000 in
set_option maxHeartbeats 400000 in
theorem create_by {w : World} {mb : Nat} {a b : Int} {R : World → Prop} (h : Calls Tryz.prog 48 #[pt mb, .agg (picV (zeroPic (-1)))] w fun e w' => e = .returned (.tuple #[.int .i64 a, .int .i64 b]) ∧ R w') :
    Calls Tryz.prog 19 #[pt mb] w fun e w' => e = .returned (.tuple #[.int .i64 a, .int .i64 b]) ∧ R w' := by
  have hb := run_blank
  go_enter Tryz.func19, Tryz.ntmps19
  go_wp2_with fail
  refine h.mono ?_
  rintro e w' ⟨rfl, hR⟩
  go_wp2_with fail
  go_ret2
  exact ⟨rfl, hR⟩
end Go.Proofs.YtfcepnhknmbaaaaGreat
