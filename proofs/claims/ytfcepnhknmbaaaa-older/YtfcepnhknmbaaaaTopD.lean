/- The contract of Map, where it gives a page. -/
import Derived.Test.YtfcepnhknmbaaaaTopC
namespace Go.Proofs.Ytfcepnhknmbaaaa
open Go.RowKit Go.Deep
open Go.Maps (Keyed)

set_option maxHeartbeats 2000000 in
theorem mapHad_any (w : World) (mb : Nat) (S : MS) (h : Mach w mb S) (g p : Int) (r f : Nat) (b : Bool) (hd : Good S g p r) (hx : pres (S.M.ent r p.toNat) = false)
  (hpt : pres (S.M.tbl r p.toNat) = true) (hf : 1 ≤ S.M.free) (hff : S.M.first = some f) :
    Calls Try.prog 14 #[pt mb, .int .i64 g, .int .i64 p, .bool b] w fun e w' => ∃ kb kn K, e = .returned (.int .i64 0) ∧ Mach w' mb ((S.cached kb kn K).withM ((S.M.take f).entered r p.toNat f b)) ∧ Goes w.heap.size S kb kn K (g, p) (S.M.ent r p.toNat) ∧ Only (S.own mb) w w' := by
  have HF := hid hff
  have htn := hd.tab hpt
  have hfn := (first_lt hff).1
  have hfr : r ≠ f := fun e => by
    have h0 := (first_lt hff).2
    have h1 := hd.used
    rw [← e] at h0
    omega
  have htb : (S.M.take f).tbl r p.toNat = S.M.tbl r p.toNat := by
    simp only [Mm.take, Mm.tbl, Mm.setU, Mm.blank]
    rw [if_neg hfr]
  have HT := hid htb
  clear hff htb
  have hb := ent_bd h.mem r p.toNat
  have hfl := freeTo_le S.M.U S.M.n
  change S.M.free ≤ S.M.n at hfl
  have hle := h.mem.le
  go_enter Try.func14, Try.ntmps14
  go_wp2_with fail
  refine (isPage_any _ p).mono ?_
  rintro e w1 ⟨rfl, rfl⟩
  go_wp2_with fail
  refine (check_any _ mb S h g hd.g64 _).mono ?_
  rintro e w1 ⟨rfl, ho⟩
  rw [hd.check]
  have h1 := h.nob ho
  go_wp2_with fail
  refine (mwalk_any _ mb S h1 g p r hd.g64 hd.G hd.p0 hd.p1 hd.root hd.tab hd.K hd.kn).mono ?_
  rintro e w2 ⟨kb, kn, K, rfl, h2, hG2, ho2⟩
  have c1 : w2.cell? ⟨mb, 1, none⟩ = some (.map (some S.gb)) := h2.c1
  have hgm : MapIs Try.prog 3 kvG w2 S.gb S.cnt S.cnt S.gst := h2.gst
  have hrun := hgm.look (i := g) law3 Try.underlying78 (zero77 w2) (key3 hd.g64)
  simp only [MS.gst, hd.G, Option.map_some, Option.getD_some] at hrun
  have hfld := fun w => fld0 w S.mp r (S.Rt g)
  have h3 := h2.nob (((Only.refl Nob w2).alloc (.cells #[pt S.mp, .int .i64 r] 75)).drew)
  have c3 : ((w2.alloc (.cells #[pt S.mp, .int .i64 r] 75)).drew).cell? ⟨mb, 0, none⟩ = some (pt S.mp) := h3.c0
  have hlt := h2.lt
  have hG3 : Goes w.heap.size S kb kn K (g, p) (S.M.ent r p.toNat) := ⟨fun b hb => (hG2.kb b hb).imp id (fun x => Nat.le_trans ho.size x), hG2.kn, hG2.K⟩
  have hO2 := (ho.of_nob (S := S.own mb)).trans ho2
  have hm3 : Mem ((w2.alloc (.cells #[pt S.mp, .int .i64 r] 75)).drew) S.mp S.fb S.M := h3.mem
  have hroot := hd.root
  have hp0 := hd.p0
  have hp1 := hd.p1
  have h2fb := h2.mem.row_lt
  change S.fb < w2.heap.size at h2fb
  clear hgm hG2 ho h1 h
  go_wp2_with (go_at_call 34; refine (present_any _ _ hb.1 hb.2).mono ?_; rintro e w' ⟨rfl, rfl⟩)
  go_cut [40] (fun s wx => s = .bool false ∧ Mach wx mb (S.cached kb kn K) ∧ Only (S.own mb) w wx ∧ wx.cell? ⟨w2.heap.size, 0, none⟩ = some (pt S.mp) ∧ wx.cell? ⟨w2.heap.size, 1, none⟩ = some (.int .i64 r))
  case first =>
    go_region_with (first
      | (go_at_call 37; refine (memFree_any (mp := S.mp) (fb := S.fb) (M := S.M) _ ?_).mono ?_; (first | exact hm3 | exact hm4); rintro e w' ⟨rfl, rfl⟩)
      | (go_at_call 38; refine (missing_any (mp := S.mp) (fb := S.fb) (M := S.M) _ r p hm3 hroot hp0 hp1).mono ?_; rintro e w4 ⟨rfl, ho4⟩; rw [hpt]; have b0 := ho4.laidD (fun h => h) 0; have b1 := ho4.laidD (fun h => h) 1; have h4 := h3.nob ho4; have hm4 : Mem w4 S.mp S.fb S.M := h4.mem; have c4 : w4.cell? ⟨mb, 0, none⟩ = some (pt S.mp) := h4.c0; have c41 : w4.cell? ⟨mb, 1, none⟩ = some (.map (some S.gb)) := h4.c1))
    all_goals
      go_wp2_with fail
      go_meet
      case rel => exact ⟨by simp [IntKind.wrap_i64]; omega, h4, (hO2.alloc _).drew.after ho4 (fun _ _ h => h.elim), b0, b1⟩
  case rest =>
    obtain ⟨rfl, hC, hOC, b0, b1⟩ := hcut
    clear h2 h3 hm3 c3 hrun c1
    have d0 : wc.cell? ⟨mb, 0, none⟩ = some (pt S.mp) := hC.c0
    have hmc : Mem wc.drew S.mp S.fb S.M := hC.mem.drew
    have hsz := World.block_lt_of_cell? _ _ b0
    have hrw := h2fb
    go_wp2
    go_region_with (first
      | (go_at_call 40; refine (take_any (mp := S.mp) (fb := S.fb) (M := S.M) _ f hmc HF.out).mono ?_; rintro e w5 ⟨rfl, hM5, ho5⟩; have a0 := ho5.keep (p := ⟨w2.heap.size, 0, none⟩) (fun h => by simp [One] at h; omega) b0; have a1 := ho5.keep (p := ⟨w2.heap.size, 1, none⟩) (fun h => by simp [One] at h; omega) b1; have h5 := (hC.nob (Only.refl Nob wc).drew).turnM hM5 ho5)
      | (go_at_call 39; refine (enterHad_any (mp := S.mp) (fb := S.fb) (M := S.M.take f) _ r p f b hM5 hp0 hp1 hroot (by omega) (by rw [HT.out]; exact hpt) (by rw [HT.out]; exact htn)).mono ?_; rintro e w6 ⟨rfl, hM6, ho6⟩))
    all_goals
      go_wp2
      go_ret
      refine ⟨kb, kn, K, rfl, h5.turnM hM6 ho6, hG3, ?_⟩
      exact (hOC.drew.after ho5 (fun b _ hb => Or.inr (Or.inr (Or.inl hb)))).after ho6 (fun b _ hb => Or.inr (Or.inr (Or.inl hb)))

set_option maxHeartbeats 2000000 in
theorem mapNew_any (w : World) (mb : Nat) (S : MS) (h : Mach w mb S) (g p : Int) (r f : Nat) (b : Bool) (hd : Good S g p r) (hx : pres (S.M.ent r p.toNat) = false)
  (hpt : pres (S.M.tbl r p.toNat) = false) (hf : 2 ≤ S.M.free) (hff : S.M.first = some f) (t : Nat) (htt : (S.M.take f).first = some t) :
    Calls Try.prog 14 #[pt mb, .int .i64 g, .int .i64 p, .bool b] w fun e w' => ∃ kb kn K, e = .returned (.int .i64 0) ∧ Mach w' mb ((S.cached kb kn K).withM (((S.M.take f).tabled r p.toNat t).entered r p.toNat f b)) ∧ Goes w.heap.size S kb kn K (g, p) (S.M.ent r p.toNat) ∧ Only (S.own mb) w w' := by
  have HF := hid hff
  have HTT := hid htt
  clear htt
  have hfn := (first_lt hff).1
  have hfr : r ≠ f := fun e => by
    have h0 := (first_lt hff).2
    have h1 := hd.used
    rw [← e] at h0
    omega
  have htb : (S.M.take f).tbl r p.toNat = S.M.tbl r p.toNat := by
    simp only [Mm.take, Mm.tbl, Mm.setU, Mm.blank]
    rw [if_neg hfr]
  have HT := hid htb
  clear hff htb
  have hb := ent_bd h.mem r p.toNat
  have hfl := freeTo_le S.M.U S.M.n
  change S.M.free ≤ S.M.n at hfl
  have hle := h.mem.le
  go_enter Try.func14, Try.ntmps14
  go_wp2_with fail
  refine (isPage_any _ p).mono ?_
  rintro e w1 ⟨rfl, rfl⟩
  go_wp2_with fail
  refine (check_any _ mb S h g hd.g64 _).mono ?_
  rintro e w1 ⟨rfl, ho⟩
  rw [hd.check]
  have h1 := h.nob ho
  go_wp2_with fail
  refine (mwalk_any _ mb S h1 g p r hd.g64 hd.G hd.p0 hd.p1 hd.root hd.tab hd.K hd.kn).mono ?_
  rintro e w2 ⟨kb, kn, K, rfl, h2, hG2, ho2⟩
  have c1 : w2.cell? ⟨mb, 1, none⟩ = some (.map (some S.gb)) := h2.c1
  have hgm : MapIs Try.prog 3 kvG w2 S.gb S.cnt S.cnt S.gst := h2.gst
  have hrun := hgm.look (i := g) law3 Try.underlying78 (zero77 w2) (key3 hd.g64)
  simp only [MS.gst, hd.G, Option.map_some, Option.getD_some] at hrun
  have hfld := fun w => fld0 w S.mp r (S.Rt g)
  have h3 := h2.nob (((Only.refl Nob w2).alloc (.cells #[pt S.mp, .int .i64 r] 75)).drew)
  have c3 : ((w2.alloc (.cells #[pt S.mp, .int .i64 r] 75)).drew).cell? ⟨mb, 0, none⟩ = some (pt S.mp) := h3.c0
  have hlt := h2.lt
  have hG3 : Goes w.heap.size S kb kn K (g, p) (S.M.ent r p.toNat) := ⟨fun b hb => (hG2.kb b hb).imp id (fun x => Nat.le_trans ho.size x), hG2.kn, hG2.K⟩
  have hO2 := (ho.of_nob (S := S.own mb)).trans ho2
  have hm3 : Mem ((w2.alloc (.cells #[pt S.mp, .int .i64 r] 75)).drew) S.mp S.fb S.M := h3.mem
  have hroot := hd.root
  have hp0 := hd.p0
  have hp1 := hd.p1
  have h2fb := h2.mem.row_lt
  change S.fb < w2.heap.size at h2fb
  clear hgm hG2 ho h1 h
  go_wp2_with (go_at_call 34; refine (present_any _ _ hb.1 hb.2).mono ?_; rintro e w' ⟨rfl, rfl⟩)
  go_cut [40] (fun s wx => s = .bool false ∧ Mach wx mb (S.cached kb kn K) ∧ Only (S.own mb) w wx ∧ wx.cell? ⟨w2.heap.size, 0, none⟩ = some (pt S.mp) ∧ wx.cell? ⟨w2.heap.size, 1, none⟩ = some (.int .i64 r))
  case first =>
    go_region_with (first
      | (go_at_call 37; refine (memFree_any (mp := S.mp) (fb := S.fb) (M := S.M) _ ?_).mono ?_; (first | exact hm3 | exact hm4); rintro e w' ⟨rfl, rfl⟩)
      | (go_at_call 38; refine (missing_any (mp := S.mp) (fb := S.fb) (M := S.M) _ r p hm3 hroot hp0 hp1).mono ?_; rintro e w4 ⟨rfl, ho4⟩; rw [hpt]; have b0 := ho4.laidD (fun h => h) 0; have b1 := ho4.laidD (fun h => h) 1; have h4 := h3.nob ho4; have hm4 : Mem w4 S.mp S.fb S.M := h4.mem; have c4 : w4.cell? ⟨mb, 0, none⟩ = some (pt S.mp) := h4.c0; have c41 : w4.cell? ⟨mb, 1, none⟩ = some (.map (some S.gb)) := h4.c1))
    all_goals
      go_wp2_with fail
      go_meet
      case rel => exact ⟨by simp [IntKind.wrap_i64]; omega, h4, (hO2.alloc _).drew.after ho4 (fun _ _ h => h.elim), b0, b1⟩
  case rest =>
    obtain ⟨rfl, hC, hOC, b0, b1⟩ := hcut
    clear h2 h3 hm3 c3 hrun c1
    have d0 : wc.cell? ⟨mb, 0, none⟩ = some (pt S.mp) := hC.c0
    have hmc : Mem wc.drew S.mp S.fb S.M := hC.mem.drew
    have hsz := World.block_lt_of_cell? _ _ b0
    have hrw := h2fb
    go_wp2
    go_region_with (first
      | (go_at_call 40; refine (take_any (mp := S.mp) (fb := S.fb) (M := S.M) _ f hmc HF.out).mono ?_; rintro e w5 ⟨rfl, hM5, ho5⟩; have a0 := ho5.keep (p := ⟨w2.heap.size, 0, none⟩) (fun h => by simp [One] at h; omega) b0; have a1 := ho5.keep (p := ⟨w2.heap.size, 1, none⟩) (fun h => by simp [One] at h; omega) b1; have h5 := (hC.nob (Only.refl Nob wc).drew).turnM hM5 ho5)
      | (go_at_call 39; refine (enterNew_any (mp := S.mp) (fb := S.fb) (M := S.M.take f) _ r p f t b hM5 hp0 hp1 hroot (by omega) (by rw [HT.out]; exact hpt) HTT.out).mono ?_; rintro e w6 ⟨rfl, hM6, ho6⟩))
    all_goals
      go_wp2
      go_ret
      refine ⟨kb, kn, K, rfl, h5.turnM hM6 ho6, hG3, ?_⟩
      exact (hOC.drew.after ho5 (fun b _ hb => Or.inr (Or.inr (Or.inl hb)))).after ho6 (fun b _ hb => Or.inr (Or.inr (Or.inl hb)))

end Go.Proofs.Ytfcepnhknmbaaaa
