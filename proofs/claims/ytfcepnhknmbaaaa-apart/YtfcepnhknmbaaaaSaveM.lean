/- The contract of a machine's picture: what a guest has, as bytes are told of it. -/
import Derived.Test.YtfcepnhknmbaaaaTurnBase
import Derived.Test.YtfcepnhknmbaaaaGuestM
import Derived.Test.YtfcepnhknmbaaaaReadMapped
import Derived.Test.YtfcepnhknmbaaaaReadTopM
import Derived.Test.YtfcepnhknmbaaaaAbsAdmit
namespace Go.Proofs.Ytfcepnhknmbaaaa
open Go.RowKit Go.Deep

/-- What guest g, of the root r, has. -/
def MS.pic (S : MS) (g : Int) (r : Nat) : Pic := ⟨S.Rt g, fun p => pres (S.M.ent r p), fun p => pres (S.M.ent r p) && wrib (S.M.ent r p), fun p k => if pres (S.M.ent r p) then S.M.W (numb (S.M.ent r p)) k else 0⟩
/-- Of its pages those below n. -/
def Pic.upto (P : Pic) (n : Nat) : Pic := ⟨P.root, fun p => if p < n then P.pr p else false, fun p => if p < n then P.wr p else false, fun p k => if p < n then P.wd p k else 0⟩

structure PAft (B : Nat) (w0 w : World) (mb : Nat) (S : MS) (H : Hs) (n : Nat) (kb : Option Nat) (kn : Nat) (K : Int × Int → Option Int) : Prop where
  m : Mach w mb (S.cached kb kn K)
  i : Inv (S.cached kb kn K) H
  kn : kn ≤ S.kn + n
  kb : ∀ b, kb = some b → S.kb = some b ∨ B ≤ b
  o : Only (S.own mb) w0 w
  lt : ∀ b, S.own mb b → b < w0.heap.size
def PAfter (B : Nat) (w0 w : World) (mb : Nat) (S : MS) (H : Hs) (n : Nat) : Prop := ∃ kb kn K, PAft B w0 w mb S H n kb kn K

namespace PAfter
variable {B : Nat} {w0 w w' : World} {mb n : Nat} {S : MS} {H : Hs}
theorem start (hM : Mach w0 mb S) (hI : Inv S H) : PAfter B w0 w0 mb S H 0 := ⟨S.kb, S.kn, S.K, hM.cached_self, hI, Nat.le_refl _, fun _ h => Or.inl h, Only.refl _ _, fun _ h => hM.own_lt h⟩
theorem nob (h : PAfter B w0 w mb S H n) (o : Only Nob w w') : PAfter B w0 w' mb S H n := by
  obtain ⟨kb, kn, K, h⟩ := h
  exact ⟨kb, kn, K, h.m.nob o, h.i, h.kn, h.kb, h.o.after o (fun _ _ q => q.elim), h.lt⟩
theorem set (h : PAfter B w0 w mb S H n) {q : Nat} (h1 : w0.heap.size ≤ q) (h2 : q < B) (o : Only (One q) w w') : PAfter B w0 w' mb S H n := by
  obtain ⟨kb, kn, K, h⟩ := h
  refine ⟨kb, kn, K, h.m.only o (fun b hb e => ?_), h.i, h.kn, h.kb, h.o.after o (fun b hb e => by simp only [One] at e; omega), h.lt⟩
  simp only [One] at e
  rcases hb with q | q | q | q | q
  · have := h.lt b (Or.inl q); omega
  · have := h.lt b (Or.inr (Or.inl q)); omega
  · have := h.lt b (Or.inr (Or.inr (Or.inl q))); omega
  · have := h.lt b (Or.inr (Or.inr (Or.inr (Or.inl q)))); omega
  · rcases h.kb b q with q | q
    · have := h.lt b (Or.inr (Or.inr (Or.inr (Or.inr q)))); omega
    · omega
theorem c0 (h : PAfter B w0 w mb S H n) : w.cell? ⟨mb, 0, none⟩ = some (pt S.mp) := by obtain ⟨kb, kn, K, h⟩ := h; exact h.m.c0
theorem mem (h : PAfter B w0 w mb S H n) : Mem w S.mp S.fb S.M := by obtain ⟨kb, kn, K, h⟩ := h; exact h.m.mem
theorem size (h : PAfter B w0 w mb S H n) : w0.heap.size ≤ w.heap.size := by obtain ⟨kb, kn, K, h⟩ := h; exact h.o.size
theorem mlt (h : PAfter B w0 w mb S H n) : mb < w0.heap.size := by obtain ⟨kb, kn, K, h⟩ := h; exact h.lt mb (Or.inl rfl)
theorem after (h : PAfter B w0 w mb S H n) (hB : w0.heap.size ≤ B) : After w0 w mb S H n := by
  obtain ⟨kb, kn, K, h⟩ := h
  exact ⟨kb, kn, K, h.m, h.i, h.kn, fun b q => (h.kb b q).imp id (fun q => by omega), h.o⟩
/-- Only blocks that were there, and were the call's own, are kept. -/
theorem walk (h : PAfter B w0 w mb S H n) (hB0 : w0.heap.size ≤ B) (hB : B ≤ w.heap.size) {g q : Int} {r : Nat} (hg : In64 g) (hG : S.G g = some r) (h0 : 0 ≤ q) (h1 : q < 64) (hk : S.kn + n < maxLen) :
    Calls Try.prog 33 #[pt mb, .int .i64 g, .int .i64 q] w fun e w' => e = .returned (.int .u16 (S.M.ent r q.toNat)) ∧ PAfter B w0 w' mb S H (n + 1) ∧ Only (fun b => S.own mb b ∨ B ≤ b) w w' := by
  obtain ⟨kb, kn, K, h⟩ := h
  have hG' : (S.cached kb kn K).G g = some r := hG
  have hd := h.i.good hg hG' h0 h1 (by show kn < maxLen; have := h.kn; omega)
  refine (mwalk_any w mb _ h.m g q r hd.g64 hd.G hd.p0 hd.p1 hd.root hd.tab hd.K hd.kn).mono ?_
  rintro e w' ⟨kb', kn', K', rfl, h2, hG2, ho2⟩
  have key : ∀ b, (S.cached kb kn K).own mb b → S.own mb b ∨ B ≤ b := fun b q => by
    rcases q with q | q | q | q | q
    · exact Or.inl (Or.inl q)
    · exact Or.inl (Or.inr (Or.inl q))
    · exact Or.inl (Or.inr (Or.inr (Or.inl q)))
    · exact Or.inl (Or.inr (Or.inr (Or.inr (Or.inl q))))
    · exact (h.kb b q).imp (fun q => Or.inr (Or.inr (Or.inr (Or.inr q)))) id
  refine ⟨rfl, ⟨kb', kn', K', h2, h.i.cached hG' h0 h1 hG2, ?_, ?_, ?_, h.lt⟩, ho2.mono (fun b _ q => key b q)⟩
  · have e1 := hG2.kn
    have e2 := h.kn
    have e3 : (S.cached kb kn K).kn = kn := rfl
    omega
  · intro b hb
    rcases hG2.kb b hb with q | q
    · exact h.kb b q
    · exact Or.inr (by omega)
  · refine h.o.after ho2 (fun b hb q => ?_)
    rcases q with q | q | q | q | q
    · exact Or.inl q
    · exact Or.inr (Or.inl q)
    · exact Or.inr (Or.inr (Or.inl q))
    · exact Or.inr (Or.inr (Or.inr (Or.inl q)))
    · rcases h.kb b q with q | q
      · exact Or.inr (Or.inr (Or.inr (Or.inr q)))
      · exact absurd q (by omega)
end PAfter

theorem upto_no {P : Pic} {n : Nat} (h : P.pr n = false ∧ P.wr n = false ∧ ∀ k, P.wd n k = 0) (i : Nat) : picCell (P.upto n) i = picCell (P.upto (n + 1)) i := by
  have key : ∀ p j, pageCell (P.upto n) p j = pageCell (P.upto (n + 1)) p j := fun p j => by
    have e1 : (P.upto n).pr p = (P.upto (n + 1)).pr p := by
      show (if p < n then P.pr p else false) = if p < n + 1 then P.pr p else false
      by_cases e : p = n
      · rw [e, if_neg (by omega), if_pos (by omega), h.1]
      · by_cases e2 : p < n
        · rw [if_pos e2, if_pos (by omega)]
        · rw [if_neg e2, if_neg (by omega)]
    have e2 : (P.upto n).wr p = (P.upto (n + 1)).wr p := by
      show (if p < n then P.wr p else false) = if p < n + 1 then P.wr p else false
      by_cases e : p = n
      · rw [e, if_neg (by omega), if_pos (by omega), h.2.1]
      · by_cases e2 : p < n
        · rw [if_pos e2, if_pos (by omega)]
        · rw [if_neg e2, if_neg (by omega)]
    have e3 : ∀ k, (P.upto n).wd p k = (P.upto (n + 1)).wd p k := fun k => by
      show (if p < n then P.wd p k else 0) = if p < n + 1 then P.wd p k else 0
      by_cases e : p = n
      · rw [e, if_neg (by omega), if_pos (by omega), h.2.2 k]
      · by_cases e2 : p < n
        · rw [if_pos e2, if_pos (by omega)]
        · rw [if_neg e2, if_neg (by omega)]
    simp only [pageCell, e1, e2, e3]
  simp only [picCell]
  split
  · rfl
  · exact key _ _
theorem upto_yes (P : Pic) (n : Nat) : (P.upto (n + 1)).root = (P.upto n).root ∧ (P.upto (n + 1)).pr = (fun q => if q = n then P.pr n else (P.upto n).pr q) ∧ (P.upto (n + 1)).wr = (fun q => if q = n then P.wr n else (P.upto n).wr q) ∧ (P.upto (n + 1)).wd = (fun q k => if q = n then P.wd n k else (P.upto n).wd q k) := by
  refine ⟨rfl, ?_, ?_, ?_⟩
  · funext q
    show (if q < n + 1 then P.pr q else false) = if q = n then P.pr n else if q < n then P.pr q else false
    by_cases e : q = n
    · rw [if_pos e, if_pos (by omega), e]
    · rw [if_neg e]
      by_cases e2 : q < n
      · rw [if_pos e2, if_pos (by omega)]
      · rw [if_neg e2, if_neg (by omega)]
  · funext q
    show (if q < n + 1 then P.wr q else false) = if q = n then P.wr n else if q < n then P.wr q else false
    by_cases e : q = n
    · rw [if_pos e, if_pos (by omega), e]
    · rw [if_neg e]
      by_cases e2 : q < n
      · rw [if_pos e2, if_pos (by omega)]
      · rw [if_neg e2, if_neg (by omega)]
  · funext q k
    show (if q < n + 1 then P.wd q k else 0) = if q = n then P.wd n k else if q < n then P.wd q k else 0
    by_cases e : q = n
    · rw [if_pos e, if_pos (by omega), e]
    · rw [if_neg e]
      by_cases e2 : q < n
      · rw [if_pos e2, if_pos (by omega)]
      · rw [if_neg e2, if_neg (by omega)]
theorem upto_zero (P : Pic) : P.upto 0 = zeroPic P.root := by
  simp only [Pic.upto, zeroPic, Nat.not_lt_zero, if_false]
theorem upto_same (P : Pic) : (P.upto 64).Same P := by
  refine ⟨rfl, fun p hp => ?_, fun p hp => ?_, fun p k hp _ => ?_⟩
  · show (if p < 64 then P.pr p else false) = P.pr p; rw [if_pos hp]
  · show (if p < 64 then P.wr p else false) = P.wr p; rw [if_pos hp]
  · show (if p < 64 then P.wd p k else 0) = P.wd p k; rw [if_pos hp]
theorem picV_congr {P Q : Pic} (h : P.Same Q) : picV P = picV Q := by
  have hp := picV_get P
  have hq := picV_get Q
  have sp := picV_size P
  have sq := picV_size Q
  generalize picV P = a at *
  generalize picV Q = b at *
  apply Array.ext_getElem?
  intro i
  by_cases hi : i < 641
  · rw [hp i hi, hq i hi]
    congr 1
    simp only [picCell]
    split
    · rw [h.root]
    · have h1 : (i - 1) / 10 < 64 := by omega
      simp only [pageCell, h.pr _ h1, h.wr _ h1]
      split
      · rfl
      · split
        · rfl
        · rw [h.wd _ _ h1 (by omega)]
  · rw [Array.getElem?_eq_none_iff.2 (by omega), Array.getElem?_eq_none_iff.2 (by omega)]

theorem row_store {w : World} {gb : Nat} {t : TypeId} {P Q R : Pic} (r : w.rowIs gb t 641 (picCell P)) {N : Nat} (hN : N < 64) (hQ : Q.root = P.root ∧ Q.pr = (fun q => if q = N then R.pr 0 else P.pr q) ∧ Q.wr = (fun q => if q = N then R.wr 0 else P.wr q) ∧ Q.wd = (fun q k => if q = N then R.wd 0 k else P.wd q k)) :
    (w.setCells gb (1 + N * 10) (pageV R 0).toList).rowIs gb t 641 (picCell Q) := by
  obtain ⟨q0, q1, q2, q3⟩ := hQ
  have hl : (pageV R 0).toList.length = 10 := rfl
  refine (rowIs_setCells _ _ _ _ r).congr (fun j _ => ?_)
  by_cases h0 : j = 0
  · subst h0
    rw [if_neg (by omega)]
    simp [picCell, q0]
  · obtain ⟨p, i, hi, rfl⟩ : ∃ p i, i < 10 ∧ j = 1 + p * 10 + i := ⟨(j - 1) / 10, (j - 1) % 10, by omega, by omega⟩
    have hpc : ∀ R : Pic, picCell R (1 + p * 10 + i) = pageCell R p i := fun R => by
      rw [picCell, if_neg (by omega), show (1 + p * 10 + i - 1) / 10 = p by omega, show (1 + p * 10 + i - 1) % 10 = i by omega]
    rw [hpc, hpc]
    by_cases e : p = N
    · subst e
      rw [if_pos (by omega), show 1 + p * 10 + i - (1 + p * 10) = i by omega, List.getD_eq_getElem?_getD, Array.getElem?_toList, pageV_get R 0 i hi]
      simp [pageCell, q1, q2, q3]
    · have hz : pageCell Q p i = pageCell P p i := by simp [pageCell, q1, q2, q3, e]
      rw [hz, if_neg (by omega)]

set_option maxRecDepth 100000 in
set_option maxHeartbeats 4000000 in
theorem picture_any (w : World) (mb : Nat) (S : MS) (H : Hs) (hM : Mach w mb S) (hI : Inv S H) (g : Int) (r : Nat) (hg : In64 g) (hG : S.G g = some r) (hk : S.kn + 64 < maxLen) :
    Calls Try.prog 53 #[pt mb, .int .i64 g] w fun e w' => e = .returned (.agg (picV (S.pic g r))) ∧ After w w' mb S H 64 := by
  have hsz := zc104_size
  have hset := zc104_set (S.Rt g)
  have hsg := picV_size (zeroPic (S.Rt g))
  have hA := hM.nob ((Only.refl Nob w).alloc (.cells Try.zeroCells104 104))
  have c1 := hA.c1
  have hmb := hM.lt
  have hrun := hA.gst.look (i := g) law3 Try.underlying78 (zero77 _) (key3 hg)
  simp only [MS.gst, hG, Option.map_some, Option.getD_some] at hrun
  have hfld := fun w => fld1 w S.mp r (S.Rt g)
  have hsn : (storeCells ⟨w.heap.size + 1, 0, none⟩ (picV (zeroPic (S.Rt g))).toList 0).run Try.prog ((w.alloc (.cells Try.zeroCells104 104)).alloc (.cells Try.zeroCells104 104)) = .ok () ((w.alloc (.cells Try.zeroCells104 104)).alloc (.cells (picV (zeroPic (S.Rt g))) 104)) := by
    have := run_storeCells_new (P := Try.prog) (w.alloc (.cells Try.zeroCells104 104)) 104 Try.zeroCells104 (picV (zeroPic (S.Rt g))) (by rw [info104z, picV_size]) (by rw [hsz, picV_size]) (picV_one _)
    rw [World.size_alloc] at this
    exact this
  have H0 : Hid (PAfter (w.heap.size + 2) w ((w.alloc (.cells Try.zeroCells104 104)).alloc (.cells (picV (zeroPic (S.Rt g))) 104)) mb S H 0) := (PAfter.start hM hI).nob (((Only.refl Nob w).alloc _).alloc _)
  have HR0 : Hid ((w.alloc (.cells Try.zeroCells104 104)).alloc (.cells (picV (zeroPic (S.Rt g))) 104) |>.rowIs w.heap.size 104 641 (picCell (zeroPic 0))) := by
    have := picRow w (zeroPic 0) 104
    rw [← zc104] at this
    exact this.alloc _
  have HQ0 : Hid ((w.alloc (.cells Try.zeroCells104 104)).alloc (.cells (picV (zeroPic (S.Rt g))) 104) |>.rowIs (w.heap.size + 1) 104 641 (picCell ((S.pic g r).upto 0))) := by
    rw [Hid, upto_zero]
    have := picRow (w.alloc (.cells Try.zeroCells104 104)) (zeroPic (S.Rt g)) 104
    rw [World.size_alloc] at this
    exact this
  have HI := hid hI
  have HG := hid hG
  have HK := hid hk
  have hown : ∀ b, S.own mb b → b < w.heap.size := fun b q => hM.own_lt q
  clear hA hM hI hG hk
  go_enter Try.func53, Try.ntmps53
  go_wp2_with fail
  go_loopw [18] (fun c wr => ∃ p : Nat, p ≤ 64 ∧ c = .int .i64 p ∧ PAfter (w.heap.size + 2) w wr mb S H p ∧ wr.rowIs w.heap.size 104 641 (picCell (zeroPic 0)) ∧ wr.rowIs (w.heap.size + 1) 104 641 (picCell ((S.pic g r).upto p))) (fun c _ => 64 - (intOf c).toNat)
  case atStart => exact ⟨0, by omega, rfl, H0.out, HR0.out, HQ0.out⟩
  case round =>
    clear H0 HR0 HQ0 hset hsg hrun hfld hsn c1
    obtain ⟨p, hp, rfl, hPA, hr0, hq0⟩ := hrel
    by_cases hlt : p < 64
    · have hql := hq0.lt
      have HR0 := hid hr0
      have HQ0 := hid hq0
      clear hr0 hq0
      go_wp2_with fail
      refine (hPA.walk (by omega) (by omega) hg HG.out (by omega) (by omega) (by have := HK.out; omega)).mono ?_
      rintro e w1 ⟨rfl, hPA1, ho1⟩
      rw [Int.toNat_natCast]
      have hb := ent_bd hPA1.mem r p
      have hr1 := ho1.row HR0.out (fun q => by
        rcases q with q | q
        · have := hown _ q; omega
        · omega)
      have hq1 := ho1.row HQ0.out (fun q => by
        rcases q with q | q
        · have := hown _ q; omega
        · omega)
      have HR1 := hid hr1
      have HQ1 := hid hq1
      have hs1 := ho1.size
      obtain ⟨x, hx⟩ : ∃ x, x = S.M.ent r p := ⟨_, rfl⟩
      rw [← hx] at hb ⊢
      have HX := hid hx
      clear hx hr1 hq1 HR0 HQ0 hPA ho1
      cases hpx : pres x with
      | false =>
        have HU : Hid (∀ i, picCell ((S.pic g r).upto p) i = picCell ((S.pic g r).upto (p + 1)) i) := upto_no (by
          have e : pres (S.M.ent r p) = false := by rw [← HX.out]; exact hpx
          refine ⟨e, ?_, fun k => ?_⟩
          · show (pres (S.M.ent r p) && wrib (S.M.ent r p)) = false
            rw [e]; rfl
          · show (if pres (S.M.ent r p) then S.M.W (numb (S.M.ent r p)) k else 0) = 0
            rw [e]; rfl)
        go_wp2_with fail
        refine (present_any _ x hb.1 hb.2).mono ?_
        rintro e w2 ⟨rfl, rfl⟩
        rw [hpx]
        go_wp2_with fail
        go_roundw
        case rel => exact ⟨p + 1, by omega, by go_num, hPA1, HR1.out, HQ1.out.congr (fun i _ => HU.out i)⟩
        case measure => simp [intOf]; omega
      | true =>
        have HN : Hid (numb x < S.M.n) := by
          rw [HX.out] at hpx ⊢
          exact (HI.out.ok.pageN HG.out hlt hpx).1
        have HPX := hid hpx
        have hst : (storeCells ⟨w1.heap.size, 0, none⟩ [.bool true, .bool (wrib x), .int .u16 0, .int .u16 0, .int .u16 0, .int .u16 0, .int .u16 0, .int .u16 0, .int .u16 0, .int .u16 0] 0).run Try.prog w1 = .ok () w1 → True := fun _ => trivial
        clear hst
        go_wp2_with fail
        refine (present_any _ x hb.1 hb.2).mono ?_
        rintro e w2 ⟨rfl, rfl⟩
        rw [hpx]
        clear hpx
        go_wp2_with fail
        refine (writable_any _ x hb.1 hb.2).mono ?_
        rintro e w2 ⟨rfl, rfl⟩
        have r0 : (w1.alloc (.cells #[.bool true, .bool (wrib x), .int .u16 0, .int .u16 0, .int .u16 0, .int .u16 0, .int .u16 0, .int .u16 0, .int .u16 0, .int .u16 0] 101)).rowIs w1.heap.size 101 10 (pageCell (onePic true (wrib x) (fun j => if j < 0 then 0 else 0)) 0) := World.rowIs_alloc w1 _ 101 _ (fun i hi => by
          have hi : i < 10 := hi
          have e : i = 0 ∨ i = 1 ∨ i = 2 ∨ i = 3 ∨ i = 4 ∨ i = 5 ∨ i = 6 ∨ i = 7 ∨ i = 8 ∨ i = 9 := by omega
          rcases e with e | e | e | e | e | e | e | e | e | e <;> subst e <;> rfl)
        have R0 := hid r0
        clear r0
        go_wp2_with fail
        go_loopw [31] (fun c wi => ∃ k : Nat, k ≤ 8 ∧ c = .int .i64 k ∧ Only Nob w1 wi ∧ wi.rowIs w1.heap.size 101 10 (pageCell (onePic true (wrib x) (fun j => if j < k then S.M.W (numb x) j else 0)) 0)) (fun c _ => 8 - (intOf c).toNat)
        case atStart => exact ⟨0, by omega, rfl, (Only.refl _ _).alloc _, R0.out.congr (fun i _ => by simp [onePic, pageCell])⟩
        case round =>
          rename World => wi
          obtain ⟨k, hk8, rfl, hoi, hpi⟩ := hrel
          clear R0
          have hPAi := hPA1.nob hoi
          by_cases hlk : k < 8
          · have c0 := hPAi.c0
            have hmem := hPAi.mem
            have hwb := hmem.wb (numb x) k
            have hcl : wi.cell? ⟨w1.heap.size, 2 + k, none⟩ = some (pageCell (onePic true (wrib x) (fun j => if j < k then S.M.W (numb x) j else 0)) 0 (2 + k)) := hpi.cell (show 2 + k < 10 by omega)
            have hfz := hpi.frozen (2 + k)
            have hn := HN.out
            have hmbl := hPAi.mlt
            have HPI := hid hpi
            have HOI := hid hoi
            clear hpi hoi
            generalize hov : pageCell (onePic true (wrib x) (fun j => if j < k then S.M.W (numb x) j else 0)) 0 (2 + k) = ov at hcl
            clear hov
            go_wp2_with fail
            go_region_with (first
              | (go_at_call 50; refine (number_any _ x hb.1 hb.2).mono ?_; rintro e w' ⟨rfl, rfl⟩)
              | (go_at_call 67; refine (word_any (mp := S.mp) (fb := S.fb) (M := S.M) _ _ _ hmem.drew (by omega) (by omega) (by omega) (by omega)).mono ?_; rintro e w' ⟨rfl, rfl⟩))
            all_goals
              go_wp2_with fail
              go_roundw
              case rel =>
                refine ⟨k + 1, by omega, by go_num, (HOI.out.setCell (p := ⟨w1.heap.size, 2 + k, none⟩) (fun q => by simp at q) _).drew, ((HPI.out.set (2 + k) _).congr (fun i hi => ?_)).drew⟩
                by_cases e : i = 2 + k
                · subst e
                  simp [pageCell, onePic]
                  omega
                · rw [if_neg e]
                  simp only [pageCell, onePic]
                  by_cases e0 : i = 0
                  · simp [e0]
                  · by_cases e1 : i = 1
                    · simp [e1]
                    · rw [if_neg e0, if_neg e1, if_neg e0, if_neg e1]
                      by_cases e2 : i - 2 < k
                      · rw [if_pos e2, if_pos (by omega)]
                      · rw [if_neg e2, if_neg (by omega)]
              case measure => simp [intOf]; omega
          · have e8 : k = 8 := by omega
            subst e8
            have y0 : wi.cell? ⟨w1.heap.size, 0, none⟩ = some (.bool true) := hpi.cell (show 0 < 10 by omega)
            have y1 : wi.cell? ⟨w1.heap.size, 1, none⟩ = some (.bool (wrib x)) := hpi.cell (show 1 < 10 by omega)
            have y2 : wi.cell? ⟨w1.heap.size, 2, none⟩ = some (.int .u16 (S.M.W (numb x) 0)) := hpi.cell (show 2 < 10 by omega)
            have y3 : wi.cell? ⟨w1.heap.size, 3, none⟩ = some (.int .u16 (S.M.W (numb x) 1)) := hpi.cell (show 3 < 10 by omega)
            have y4 : wi.cell? ⟨w1.heap.size, 4, none⟩ = some (.int .u16 (S.M.W (numb x) 2)) := hpi.cell (show 4 < 10 by omega)
            have y5 : wi.cell? ⟨w1.heap.size, 5, none⟩ = some (.int .u16 (S.M.W (numb x) 3)) := hpi.cell (show 5 < 10 by omega)
            have y6 : wi.cell? ⟨w1.heap.size, 6, none⟩ = some (.int .u16 (S.M.W (numb x) 4)) := hpi.cell (show 6 < 10 by omega)
            have y7 : wi.cell? ⟨w1.heap.size, 7, none⟩ = some (.int .u16 (S.M.W (numb x) 5)) := hpi.cell (show 7 < 10 by omega)
            have y8 : wi.cell? ⟨w1.heap.size, 8, none⟩ = some (.int .u16 (S.M.W (numb x) 6)) := hpi.cell (show 8 < 10 by omega)
            have y9 : wi.cell? ⟨w1.heap.size, 9, none⟩ = some (.int .u16 (S.M.W (numb x) 7)) := hpi.cell (show 9 < 10 by omega)
            have HQI := hid (hoi.row HQ1.out (fun q => q))
            have HRI := hid (hoi.row HR1.out (fun q => q))
            have hsi := hoi.size
            have HTH : Hid (wi.there (w.heap.size + 1) (1 + p * 10) 10) := fun j hj => ⟨by rw [HQI.out.cell (show 1 + p * 10 + j < 641 by omega)]; rfl, HQI.out.frozen _⟩
            clear hpi hoi
            have o10 : Only (One (w.heap.size + 1)) wi (wi.setCells (w.heap.size + 1) (1 + p * 10) (pageV (onePic true (wrib x) (fun j => S.M.W (numb x) j)) 0).toList) := Only.setCells (S := One (w.heap.size + 1)) rfl _ _ _ (Only.refl _ _)
            have HPW := hid (hPAi.set (by omega) (by omega) o10)
            have HRW := hid (o10.row HRI.out (fun q => by simp only [One] at q; omega))
            have HQW : Hid ((wi.setCells (w.heap.size + 1) (1 + p * 10) (pageV (onePic true (wrib x) (fun j => S.M.W (numb x) j)) 0).toList).rowIs (w.heap.size + 1) 104 641 (picCell ((S.pic g r).upto (p + 1)))) := by
              refine row_store HQI.out hlt ?_
              have h := upto_yes (S.pic g r) p
              have e1 : (S.pic g r).pr p = true := by show pres (S.M.ent r p) = true; rw [← HX.out]; exact HPX.out
              have e2 : (S.pic g r).wr p = wrib x := by
                show (pres (S.M.ent r p) && wrib (S.M.ent r p)) = wrib x
                rw [← HX.out, HPX.out]; rfl
              have e3 : ∀ k, (S.pic g r).wd p k = S.M.W (numb x) k := fun k => by
                show (if pres (S.M.ent r p) then S.M.W (numb (S.M.ent r p)) k else 0) = _
                rw [← HX.out, HPX.out]; rfl
              refine ⟨h.1, ?_, ?_, ?_⟩
              · rw [h.2.1, e1]; rfl
              · rw [h.2.2.1, e2]; rfl
              · rw [h.2.2.2]
                funext q k
                rw [e3 k]; rfl
            clear o10
            generalize hwz : wi.setCells (w.heap.size + 1) (1 + p * 10) (pageV (onePic true (wrib x) (fun j => S.M.W (numb x) j)) 0).toList = wz at HPW HRW HQW
            have HWZ := hid hwz
            clear hwz
            go_wp2_with (guard_target =~ wpList _ _ _ ({ dst := none, op := Op.store 101 (Operand.tmp 49) (Operand.tmp 47), type := 0, pos := _, after := _, guard := none } :: _) _ _; refine wpList_store_mid rfl 101 (.tmp 49) (.tmp 47) rfl (w.heap.size + 1) (1 + p * 10) (pageV (onePic true (wrib x) (fun j => S.M.W (numb x) j)) 0) rfl rfl HTH.out (by rw [info101]; rfl) (pageV_one _ _) ?_; rw [HWZ.out])
            go_roundw
            case rel => exact ⟨p + 1, by omega, by go_num, HPW.out, HRW.out, HQW.out⟩
            case measure => simp [intOf]; omega
    · have e64 : p = 64 := by omega
      subst e64
      obtain ⟨Q, hQ⟩ : ∃ Q, Q = (S.pic g r).upto 64 := ⟨_, rfl⟩
      rw [← hQ] at hq0
      have HV : Hid (picV Q = picV (S.pic g r)) := by rw [Hid, hQ, picV_congr (upto_same (S.pic g r))]
      clear hQ
      obtain ⟨w6, hst, hrow6, hon6⟩ := store_pic hr0 Q
      have HL := hid (load_pic hrow6)
      have HA6 : Hid (After w w6 mb S H 64) := (hPA.set (Nat.le_refl _) (by omega) hon6).after (by omega)
      have HPR := hid (rowIs_pic hq0)
      have HST := hid hst
      have HSI := hid (info104s Q)
      have hsp := picV_size Q
      have hta : (picV Q).toList.toArray = picV Q := Array.toArray_toList
      clear hst hrow6 hon6 hr0 hq0 hPA
      generalize picV Q = Qv at *
      go_wp2_with (guard_target =~ wpList _ _ _ ({ dst := some 51, op := Op.load 104 (Operand.tmp 5), type := _, pos := _, after := _, guard := none } :: _) _ _; refine wpList_load_mid rfl 104 (.tmp 5) rfl (w.heap.size + 1) 0 rfl Qv.toList _ HPR.out Try.underlying104 rfl HSI.out ?_; rw [hta]; have hst := HST.out)
      refine bodyPost_ret (v := .agg Qv) ?_ rfl ⟨by rw [HV.out], HA6.out⟩
      simp [results, Try.results53, asAddr, HL.out]
end Go.Proofs.Ytfcepnhknmbaaaa

/- The contracts of Save, Restore, Upgrade in a law's words. -/
namespace Go.Proofs.Ytfcepnhknmbaaaa
open Go.RowKit Go.Deep

/-- What a guest has, as a law sees it. -/
def Abs.pic (A : Abs) (g : Int) : Pic := ⟨A.rt g, fun p => (A.pg g p).isSome, fun p => match A.pg g p with | .some (_, b) => b | .none => false, fun p k => match A.pg g p with | .some (f, _) => A.wd f k | .none => 0⟩

theorem Sees.pic {S : MS} {A : Abs} (hS : Sees S A) {g : Int} {r : Nat} (hg : S.G g = .some r) : (S.pic g r).Same (A.pic g) := by
  refine ⟨(hS.rt g r hg).symm, fun p hp => ?_, fun p hp => ?_, fun p k hp hk => ?_⟩
  · show pres (S.M.ent r p) = (A.pg g p).isSome
    rw [hS.pg g r p hg hp, pgOf_isSome]
  · show (pres (S.M.ent r p) && wrib (S.M.ent r p)) = match A.pg g p with | .some (_, b) => b | .none => false
    rw [hS.pg g r p hg hp, pgOf]
    cases pres (S.M.ent r p) <;> rfl
  · show (if pres (S.M.ent r p) then S.M.W (numb (S.M.ent r p)) k else 0) = match A.pg g p with | .some (f, _) => A.wd f k | .none => 0
    cases hx : pres (S.M.ent r p) with
    | true =>
      have hpg : A.pg g p = .some (numb (S.M.ent r p), wrib (S.M.ent r p)) := by rw [hS.pg g r p hg hp, pgOf, hx]; rfl
      rw [hpg]
      exact (hS.wd g p _ _ k hp hk hpg).symm
    | false =>
      have hpg : A.pg g p = .none := by rw [hS.pg g r p hg hp, pgOf, hx]; rfl
      rw [hpg]; rfl
theorem pic_good {w : World} {mb : Nat} {S : MS} {H : Hs} (hM : Mach w mb S) (hI : Inv S H) {g : Int} {r : Nat} (hg : S.G g = some r) : (S.pic g r).Good := by
  refine ⟨(hI.rt hg).1, (hI.rt hg).2, fun p k _ _ => ?_⟩
  show 0 ≤ (if pres (S.M.ent r p) then S.M.W (numb (S.M.ent r p)) k else 0) ∧ (if pres (S.M.ent r p) then S.M.W (numb (S.M.ent r p)) k else 0) ≤ 65535
  split
  · exact hM.mem.wb _ _
  · omega
theorem Abs.pic_tidy (A : Abs) (g : Int) : (A.pic g).Tidy := by
  refine tidy_of (fun p h => ?_)
  have hn : A.pg g p = none := by
    have h : (A.pg g p).isSome = false := h
    simpa using h
  exact ⟨by show (match A.pg g p with | .some (_, b) => b | .none => false) = false; rw [hn], fun k => by show (match A.pg g p with | .some (f, _) => A.wd f k | .none => 0) = 0; rw [hn]⟩

set_option maxRecDepth 100000 in
set_option maxHeartbeats 1000000 in
theorem saveNone_any (w : World) (mb : Nat) (S : MS) (h : Mach w mb S) (g : Int) (hg : In64 g) (hG : S.G g = none) :
    Calls Try.prog 24 #[pt mb, .int .i64 g] w fun e w' => e = .returned (.tuple #[.string { data := #[] }, .int .i64 4]) ∧ Only Nob w w' := by
  have hc := h.c1
  have hrun := h.gst.look_ok (i := g) law3 Try.underlying78 (zero77 w) (key3 hg)
  simp only [MS.gst, hG, Option.map_none, Option.getD_none, Option.isSome_none] at hrun
  go_enter Try.func24, Try.ntmps24
  go_wp2_with fail
  go_ret2
  exact ⟨rfl, (Only.refl _ _).alloc _⟩

set_option maxRecDepth 100000 in
set_option maxHeartbeats 1000000 in
theorem saveSome_any (w : World) (mb : Nat) (S : MS) (H : Hs) (h : Mach w mb S) (hI : Inv S H) (g : Int) (r : Nat) (hg : In64 g) (hG : S.G g = some r) (hk : S.kn + 64 < maxLen) :
    Calls Try.prog 24 #[pt mb, .int .i64 g] w fun e w' => e = .returned (.tuple #[.string (toS (encL (S.pic g r))), .int .i64 0]) ∧ After w w' mb S H 64 := by
  have hc := h.c1
  have hrun := h.gst.look_ok (i := g) law3 Try.underlying78 (zero77 w) (key3 hg)
  simp only [MS.gst, hG, Option.map_some, Option.getD_some, Option.isSome_some] at hrun
  have HGD := hid (pic_good h hI hG)
  have hB := h.nob ((Only.refl Nob w).alloc (.cells #[pt S.mp, .int .i64 r, .int .i64 (S.Rt g)] 77))
  have HP := hid (picture_any _ mb S H hB hI g r hg hG hk)
  have HA : Hid (∀ w1, After (w.alloc (.cells #[pt S.mp, .int .i64 r, .int .i64 (S.Rt g)] 77)) w1 mb S H 64 → After w w1 mb S H 64) := fun w1 ⟨kb, kn, K, q⟩ => ⟨kb, kn, K, q.m, q.i, q.kn, fun b hb => (q.kb b hb).imp id (fun q => by rw [World.size_alloc] at q; omega), ((Only.refl _ w).alloc _).trans q.o⟩
  have HW := hid (fun w => write_any w (S.pic g r) HGD.out)
  clear hB hG hI
  generalize picV (S.pic g r) = Pv at *
  go_enter Try.func24, Try.ntmps24
  go_wp2_with fail
  refine HP.out.mono ?_
  rintro e w1 ⟨rfl, ha1⟩
  go_wp2_with fail
  refine (HW.out _).mono ?_
  rintro e w2 ⟨rfl, ho2⟩
  have HA2 := hid ((HA.out w1 ha1).nob ho2)
  clear ha1 ho2
  go_wp2_with fail
  go_ret2
  exact ⟨rfl, HA2.out⟩

theorem absSave {w : World} {mb : Nat} {own : Nat → Prop} {A : Abs} (h : Rep w mb own A) (g : Int) (hg : In64 g) (hk : A.kn + 64 < maxLen) :
    Calls Try.prog 24 #[pt mb, .int .i64 g] w fun e w' => ∃ own', e = .returned (.tuple #[.string (if A.has g then toS (encL (A.pic g)) else { data := #[] }), .int .i64 (if A.has g then 0 else 4)]) ∧ Rep w' mb own' (A.up 64) ∧ Left w w' own own' ∧ (A.has g = true → (A.pic g).Good) := by
  have hrep := h
  obtain ⟨S, H, hM, hI, hS, ho⟩ := h
  cases hh : A.has g with
  | false =>
    refine (saveNone_any w mb S hM g hg (hS.none hh)).mono ?_
    rintro e w' ⟨rfl, hO⟩
    exact ⟨own, by simp, (hrep.nob hO).up 64, ⟨hO.of_nob, fun b q => Or.inl q⟩, fun q => by cases q⟩
  | true =>
    obtain ⟨r, hr⟩ := hS.some hh
    refine (saveSome_any w mb S H hM hI g r hg hr (by have := hS.kn; omega)).mono ?_
    rintro e w' ⟨rfl, hA⟩
    obtain ⟨own', h1, h2⟩ := Rep.after hS ho hA
    have hs := hS.pic hr
    have hs' : (A.pic g).Same (S.pic g r) := ⟨hs.root.symm, fun p hp => (hs.pr p hp).symm, fun p hp => (hs.wr p hp).symm, fun p k hp hk => (hs.wd p k hp hk).symm⟩
    exact ⟨own', by rw [encL_congr hs]; simp, h1, h2, fun _ => hs'.good (pic_good hM hI hr)⟩

theorem absRestoreBad {w : World} {mb : Nat} {own : Nat → Prop} {A : Abs} (h : Rep w mb own A) (s : ByteArray) (hs : s.size ≤ maxLen) (hV : ¬ Valid (nats s)) :
    Calls Try.prog 25 #[pt mb, .string s] w fun e w' => e = .returned (.tuple #[.int .i64 0, .int .i64 10]) ∧ Rep w' mb own A ∧ Left w w' own own := by
  refine (restoreBad_any w mb s hs hV).mono ?_
  rintro e w' ⟨rfl, hO⟩
  exact ⟨rfl, h.nob hO, ⟨hO.of_nob, fun b q => Or.inl q⟩⟩
theorem absRestore {w : World} {mb : Nat} {own : Nat → Prop} {A : Abs} (h : Rep w mb own A) (s : ByteArray) (hs : s.size ≤ maxLen) (hV : Valid (nats s)) (hl : A.last < 1000000000000000000) :
    Calls Try.prog 25 #[pt mb, .string s] w fun e w' => ∃ P own' A', P.Same (picOf (nats s)) ∧ P.Good ∧ e = .returned (.tuple #[.int .i64 (if A.admitCode P = 0 then A.last + 1 else 0), .int .i64 (A.admitCode P)]) ∧ Rep w' mb own' A' ∧ Left w w' own own' ∧ A.Admits P A' := by
  refine (restore_by w mb s hs hV (R := fun P w1 e w' => e = .returned (.tuple #[.int .i64 (if A.admitCode P = 0 then A.last + 1 else 0), .int .i64 (A.admitCode P)]) ∧ ∃ own' A', Rep w' mb own' A' ∧ Left w1 w' own own' ∧ A.Admits P A') (fun P w1 h1 h2 h3 => ?_)).mono ?_
  · refine (absAdmit (h.nob h3) P h2 hl).mono ?_
    rintro e w' ⟨rfl, q⟩
    exact ⟨_, _, rfl, rfl, q⟩
  · rintro e w' ⟨P, w1, h1, h2, h3, rfl, own', A', q1, q2, q3⟩
    exact ⟨P, own', A', h1, h2, rfl, q1, ⟨(h3.of_nob (S := own)).trans q2.only, fun b hb => (q2.ext b hb).imp id (fun q => Nat.le_trans h3.size q)⟩, q3⟩
end Go.Proofs.Ytfcepnhknmbaaaa
