/- The contracts of the document's one, low, words, check, root, sum, page. -/
import Derived.Test.YtfcepnhknmbaaaaGreatRefLie
import Derived.Test.YtfcepnhknmbaaaaGreatSealM
namespace Go.Proofs.YtfcepnhknmbaaaaGreat
open Go.RowKit Go.Deep

set_option maxRecDepth 100000 in
set_option maxHeartbeats 400000 in
theorem one_any (w : World) (n : Int) (h0 : 0 ≤ n) (h1 : n < 256) :
    Calls Tryz.prog 101 #[.int .i64 n] w fun e w' => e = .returned (.string (toS [n.toNat])) ∧ Only Nob w w' := by
  have hst := fun w => run_lit_string (w := w) (l := [n.toNat]) (cs := #[.int .u8 n]) (n := 1) rfl (by simp only [byv, List.map_cons, List.map_nil, List.cons.injEq, and_true, Value.int.injEq, true_and]; omega) (fun x hx => by simp only [List.mem_cons, List.not_mem_nil, or_false] at hx; omega) (by simp)
  go_enter Tryz.func101, Tryz.ntmps101
  go_wp2
  go_ret
  exact ⟨rfl, (Only.refl _ _).alloc _⟩

set_option maxRecDepth 100000 in
set_option maxHeartbeats 400000 in
theorem rlow_any (w : World) (n : Int) (h0 : 0 ≤ n) (h1 : n ≤ 1000000) :
    Calls Tryz.prog 111 #[.int .i64 n] w fun e w' => e = .returned (.string (toS [n.toNat % 256, n.toNat / 256 % 256])) ∧ Only Nob w w' := by
  have hadd := run_string_add_sum (P := Tryz.prog) (a := toS [n.toNat % 256]) (b := toS [n.toNat / 256 % 256]) (h := by rw [toS_size, toS_size]; simp)
  rw [toS_append, show [n.toNat % 256] ++ [n.toNat / 256 % 256] = [n.toNat % 256, n.toNat / 256 % 256] from rfl] at hadd
  go_enter Tryz.func111, Tryz.ntmps111
  go_wp2_with fail
  refine (one_any _ (n % 256) (by omega) (by omega)).mono ?_
  rintro e w1 ⟨rfl, o1⟩
  rw [show (n % 256).toNat = n.toNat % 256 by omega]
  go_wp2_with fail
  refine (one_any _ (n / 256 % 256) (by omega) (by omega)).mono ?_
  rintro e w2 ⟨rfl, o2⟩
  rw [show (n / 256 % 256).toNat = n.toNat / 256 % 256 by omega]
  go_wp2
  go_ret
  exact ⟨rfl, o1.trans o2⟩

set_option maxRecDepth 100000 in
set_option maxHeartbeats 400000 in
theorem words_any (w : World) (b : Nat) (f : Nat → Int) (t : TypeId) (i : Int) (h : w.rowIs b t 9 (pgC i f)) (P : Pic) (p : Nat) (hf : ∀ k, k < 8 → f k = P.wd p k ∧ 0 ≤ f k ∧ f k ≤ 65535) :
    Calls Tryz.prog 100 #[pt b] w fun e w' => e = .returned (.string (toS (pageB P p 8))) ∧ Only Nob w w' := by
  have HF := hid hf
  have HR := hid h
  clear hf h
  go_enter Tryz.func100, Tryz.ntmps100
  go_wp2
  go_loopw [3, 4] (fun s3 s4 wr => ∃ k : Nat, k ≤ 8 ∧ s4 = .int .i64 k ∧ s3 = .string (toS (pageB P p k)) ∧ Only Nob w wr) (fun _ s4 _ => 8 - (intOf s4).toNat)
  case atStart => exact ⟨0, by omega, rfl, rfl, Only.refl _ _⟩
  case round =>
    rename World => wr
    obtain ⟨k, hk, rfl, rfl, ho⟩ := hrel
    by_cases hlt : k < 8
    · obtain ⟨e1, b0, b1⟩ := HF.out k hlt
      have hc : wr.cell? ⟨b, 1 + k, none⟩ = some (.int .i64 (f k)) := by
        have := (ho.row HR.out (fun q => q)).cell (i := 1 + k) (by omega)
        rw [this, pgC, if_neg (by omega), show 1 + k - 1 = k by omega]
      have hk2 : (k : Int) < 8 := by omega
      have hl := pageB_len P p k
      have HO := hid ho
      have HB : Hid (pageB P p (k + 1) = pageB P p k ++ [(f k).toNat % 256, (f k).toNat / 256]) := by rw [Hid, pageB, e1]
      clear ho e1
      generalize f k = x at *
      generalize pageB P p k = BB at *
      have hadd := run_string_add_sum (P := Tryz.prog) (a := toS BB) (b := toS [x.toNat % 256, x.toNat / 256]) (h := by rw [toS_size, toS_size]; simp; omega)
      rw [toS_append] at hadd
      go_wp2_with fail
      refine (rlow_any _ x (by omega) (by omega)).mono ?_
      rintro e w1 ⟨rfl, o1⟩
      rw [show x.toNat / 256 % 256 = x.toNat / 256 by omega]
      have HO1 := hid (HO.out.trans o1)
      clear o1
      go_wp2_with fail
      go_roundw
      case rel => exact ⟨k + 1, by omega, by go_num, by rw [HB.out], HO1.out⟩
      case measure => simp [intOf]; omega
    · have hk8 : k = 8 := by omega
      subst hk8
      have HO := hid ho
      clear ho
      go_wp2
      go_ret
      exact ⟨rfl, HO.out⟩

set_option maxRecDepth 100000 in
set_option maxHeartbeats 400000 in
theorem rcheck_any (w : World) (s : ByteArray) (hs : s.size ≤ maxLen) :
    Calls Tryz.prog 103 #[.string s] w fun e w' => e = .returned (.string (toS (checkL (nats s)))) ∧ Only Nob w w' := by
  unfold maxLen at hs
  have hnl := nats_len s
  go_enter Tryz.func103, Tryz.ntmps103
  go_wp2
  go_loop [3, 4, 5] (fun a b i => ∃ k : Nat, k ≤ s.size ∧ i = .int .i64 k ∧ a = .int .i64 ((adl ((nats s).take k)).1 : Nat) ∧ b = .int .i64 ((adl ((nats s).take k)).2 : Nat)) (fun _ _ i => s.size - (intOf i).toNat)
  case atStart => exact ⟨0, Nat.zero_le _, rfl, rfl, rfl⟩
  case round =>
    obtain ⟨k, hk, rfl, rfl, rfl⟩ := hrel
    have hd := adl_lt ((nats s).take k)
    by_cases hlt : k < s.size
    · have HS : Hid (adl ((nats s).take (k + 1)) = adlS (adl ((nats s).take k)) (bt (nats s) k)) := by
        rw [Hid, take_snoc (by omega), adl_snoc]
      have HB := hid (nats_bt hlt)
      have hb := bytes_bt (nats_bys s) k
      have hb2 : (s[k].toNat : Int) < 256 := by rw [HB.out]; omega
      have hb0 : (0 : Int) ≤ (s[k].toNat : Int) := by omega
      go_wp2
      go_round
      case rel => exact ⟨k + 1, by omega, by go_num, by rw [HS.out, HB.out, adlS]; go_num, by rw [HS.out, HB.out, adlS]; go_num⟩
      case measure => simp [intOf]; omega
    · have HK : Hid ((nats s).take k = nats s) := List.take_of_length_le (by omega)
      rw [HK.out] at hd
      rw [HK.out]
      have HE : Hid (checkL (nats s) = [(adl (nats s)).1 % 256, (adl (nats s)).1 / 256 % 256] ++ [(adl (nats s)).2 % 256, (adl (nats s)).2 / 256 % 256]) := by
        rw [Hid, show (adl (nats s)).1 / 256 % 256 = (adl (nats s)).1 / 256 by omega, show (adl (nats s)).2 / 256 % 256 = (adl (nats s)).2 / 256 by omega]
        rfl
      generalize (adl (nats s)).1 = x at *
      generalize (adl (nats s)).2 = y at *
      have hadd := run_string_add_sum (P := Tryz.prog) (a := toS [x % 256, x / 256 % 256]) (b := toS [y % 256, y / 256 % 256]) (h := by rw [toS_size, toS_size]; simp)
      rw [toS_append, ← HE.out] at hadd
      go_wp2_with fail
      refine (rlow_any _ (x : Nat) (by omega) (by omega)).mono ?_
      rintro e w1 ⟨rfl, o1⟩
      rw [Int.toNat_natCast]
      go_wp2_with fail
      refine (rlow_any _ (y : Nat) (by omega) (by omega)).mono ?_
      rintro e w2 ⟨rfl, o2⟩
      rw [Int.toNat_natCast]
      go_wp2
      go_ret
      exact ⟨rfl, o1.trans o2⟩

set_option maxRecDepth 100000 in
set_option maxHeartbeats 400000 in
theorem rrootB_any (w : World) (r : Int) (h0 : -1 ≤ r) (h1 : r < 64) :
    Calls Tryz.prog 102 #[.int .i64 r] w fun e w' => e = .returned (.string (toS [rootB r])) ∧ Only Nob w w' := by
  by_cases e : r = -1
  · subst e
    go_enter Tryz.func102, Tryz.ntmps102
    go_wp2_with fail
    refine (one_any _ 255 (by omega) (by omega)).mono ?_
    rintro e w1 ⟨rfl, o1⟩
    go_wp2
    go_ret
    exact ⟨rfl, o1⟩
  · have HE : Hid (rootB r = r.toNat) := by simp only [Hid, rootB, if_neg e]
    have hr0 : ¬ r < 0 := by omega
    go_enter Tryz.func102, Tryz.ntmps102
    go_wp2_with fail
    refine (one_any _ r (by omega) (by omega)).mono ?_
    rintro e w1 ⟨rfl, o1⟩
    go_wp2
    go_ret
    exact ⟨by rw [HE.out]; rfl, o1⟩

set_option maxRecDepth 100000 in
set_option maxHeartbeats 400000 in
theorem rsum_any (w : World) (s : ByteArray) (hs : s.size ≤ 100000) :
    Calls Tryz.prog 124 #[.string s] w fun e w' => e = .returned (.int .i64 ((nats s).sum : Nat)) ∧ w = w' := by
  have hnl := nats_len s
  have hsl : ∀ k, ((nats s).take k).sum ≤ 255 * k := fun k => by
    induction k with
    | zero => simp
    | succ k ih =>
      by_cases hk : k < (nats s).length
      · have hb := bytes_bt (nats_bys s) k
        rw [take_snoc hk, List.sum_append]
        simp
        omega
      · rw [List.take_of_length_le (by omega)] at ih ⊢
        omega
  have HSL := hid hsl
  clear hsl
  go_enter Tryz.func124, Tryz.ntmps124
  go_wp2
  go_loop [3, 4] (fun a i => ∃ k : Nat, k ≤ s.size ∧ i = .int .i64 k ∧ a = .int .i64 (((nats s).take k).sum : Nat)) (fun _ i => s.size - (intOf i).toNat)
  case atStart => exact ⟨0, Nat.zero_le _, rfl, rfl⟩
  case round =>
    obtain ⟨k, hk, rfl, rfl⟩ := hrel
    have hd := HSL.out k
    by_cases hlt : k < s.size
    · have HS : Hid (((nats s).take (k + 1)).sum = ((nats s).take k).sum + bt (nats s) k) := by
        rw [Hid, take_snoc (by omega), List.sum_append]; simp
      have HB := hid (nats_bt hlt)
      have hb := bytes_bt (nats_bys s) k
      have hb2 : (s[k].toNat : Int) < 256 := by rw [HB.out]; omega
      have hb0 : (0 : Int) ≤ (s[k].toNat : Int) := by omega
      generalize ((nats s).take k).sum = sm at *
      go_wp2
      go_round
      case rel => exact ⟨k + 1, by omega, by go_num, by rw [HS.out, HB.out]; go_num⟩
      case measure => simp [intOf]; omega
    · have HK : Hid ((nats s).take k = nats s) := List.take_of_length_le (by omega)
      go_wp2
      go_ret
      exact ⟨by rw [HK.out]; rfl, rfl⟩
end Go.Proofs.YtfcepnhknmbaaaaGreat
