/- Bytes that are put one behind the other ('Buf'), and the contracts of saved's appendWord, appendWords, check, sum, shortSum, longSum, rootByte. -/
import Derived.Test.YtfcepnhknmbaaaaGreatPic
import Derived.Test.YtfcepnhknmbaaaaGreatBytesM
import Derived.Maps.AppendAt
import Derived.Test.YtfcepnhknmbaaaaGreatAdmit
import Derived.Lib.SlBytesConst
import Derived.ArgAppend
namespace Go.Proofs.YtfcepnhknmbaaaaGreat
open Go.RowKit Go.Deep

def Ge (B k : Nat) : Prop := B ≤ k
theorem Only.of_ge {B : Nat} {w w' : World} (h : Only (Ge B) w w') (hB : w.heap.size ≤ B) : Only Nob w w' := h.mono (fun k hk q => by simp only [Ge] at q; omega)
theorem Only.ge_le {B C : Nat} {w w' : World} (h : Only (Ge B) w w') (hB : C ≤ B) : Only (Ge C) w w' := h.mono (fun k _ q => by simp only [Ge] at q ⊢; omega)
def byv (l : List Nat) : List Value := l.map fun (b : Nat) => Value.int .u8 (b : Int)
theorem byv_len (l : List Nat) : (byv l).length = l.length := by simp [byv]
theorem byv_app (a b : List Nat) : byv (a ++ b) = byv a ++ byv b := by simp [byv]

/-- A slice of bytes of the call's own. -/
structure Buf (B : Nat) (w : World) (v : Value) (l : List Nat) : Prop where
  own : w.ownsRow B 5 1 v l.length (byv l)
  len : l.length ≤ 2000

theorem ownsB_only {T : Nat → Prop} {w w' : World} {base : Nat} {e : TypeId} {s : Nat} {v : Value} {n : Nat} {xs : List Value} (h : w.ownsRow base e s v n xs) (o : Only T w w') (ht : ∀ b, v.ownBlock = some b → ¬ T b) : w'.ownsRow base e s v n xs := by
  refine ⟨h.1, ?_⟩
  rcases h.2 with q | ⟨g, cap, cur, hv, q1, q2, q3⟩
  · exact Or.inl q
  · refine Or.inr ⟨g, cap, cur, hv, q1, ?_, q3⟩
    have hg : v.ownBlock = some g := by rw [hv]; rfl
    rw [o.block g (h.lt g hg).2 (ht g hg)]
    exact q2
theorem Buf.only {T : Nat → Prop} {B : Nat} {w w' : World} {v : Value} {l : List Nat} (h : Buf B w v l) (o : Only T w w') (ht : ∀ b, B ≤ b → b < w.heap.size → ¬ T b) : Buf B w' v l :=
  ⟨ownsB_only h.own o (fun b hb => ht b (h.own.lt b hb).1 (h.own.lt b hb).2), h.len⟩
theorem Buf.nob {B : Nat} {w w' : World} {v : Value} {l : List Nat} (h : Buf B w v l) (o : Only Nob w w') : Buf B w' v l := h.only o (fun _ _ _ q => q)
theorem Buf.nil (B : Nat) (w : World) : Buf B w (.slice none 0 0) [] := ⟨World.ownsRow_nil _ _ _ _, by simp⟩
theorem Buf.shape {B : Nat} {w : World} {v : Value} {l : List Nat} (h : Buf B w v l) : ∃ a c, v = .slice a l.length c := by
  rcases h.own.2 with ⟨q, e⟩ | ⟨g, cap, cur, hv, _⟩
  · exact ⟨none, 0, by rw [q, e]⟩
  · exact ⟨_, cap, hv⟩
theorem u8_info : (Tryz.prog.info? 5).map (fun i => (i.zero, i.size, i.bytes)) = some (some (.int .u8 0), 1, 1) := by kernel_rfl

theorem Buf.grown {B : Nat} {w w' : World} {v v' : Value} {l m : List Nat} (h : Buf B w v l) (hl : l.length + m.length ≤ 2000) (ho : w'.ownsRow B 5 1 v' (l.length + m.length) (byv l ++ byv m)) (hg : w.grownBy w' v.ownBlock) :
    Buf B w' v' (l ++ m) ∧ Only (Ge B) w w' := by
  refine ⟨⟨by rw [List.length_append, byv_app]; exact ho, by simpa using hl⟩, ⟨hg.os, hg.tape, hg.output, hg.size, fun k hk hn => hg.block k hk (fun e => hn ?_)⟩⟩
  exact (h.own.lt k e.symm).1

theorem add_at (b j : Nat) : (⟨b, 0, none⟩ : Addr).add j = ⟨b, j, none⟩ := by
  by_cases e : j = 0
  · subst e; simp [Addr.add]
  · simp [Addr.add, e]
theorem byte_cells {w : World} {cs : Array Value} {t : TypeId} : ∀ j u, cs.toList[j]? = some u → (w.alloc (.cells cs t)).cell? ((⟨w.heap.size, 0, none⟩ : Addr).add j) = some u := fun j u hu => by
  rw [add_at]
  simpa using hu
theorem ownsB_pos {w : World} {base : Nat} {e : TypeId} {s : Nat} {v : Value} {n : Nat} {xs : List Value} (h : w.ownsRow base e s v (n + 1) xs) : ∃ sb cap, v = .slice (some ⟨sb, 0, none⟩) (n + 1) cap := by
  rcases h.2 with ⟨_, q⟩ | ⟨g, cap, cur, hv, _⟩
  · omega
  · exact ⟨g, cap, hv⟩
theorem one_int {k : IntKind} {x : Int} : (Value.int k x).oneCell' = true := rfl

set_option maxRecDepth 100000 in
set_option maxHeartbeats 400000 in
theorem appendWord_any (w : World) (B : Nat) (v : Value) (l : List Nat) (x : Int) (hv : Buf B w v l) (hB : B ≤ w.heap.size) (hx0 : 0 ≤ x) (hx1 : x ≤ 65535) (hl : l.length + 2 ≤ 2000) :
    Calls Tryz.prog 110 #[v, .int .u16 x] w fun e w' => ∃ v', e = .returned v' ∧ Buf B w' v' (l ++ [x.toNat % 256, x.toNat / 256]) ∧ Only (Ge B) w w' := by
  obtain ⟨i0, hi, hzz⟩ := Option.map_eq_some_iff.1 u8_info
  simp only [Prod.mk.injEq] at hzz
  obtain ⟨hz0, hz1, hz2⟩ := hzz
  have HI := hid (And.intro hi (And.intro hz0 (And.intro hz1 hz2)))
  clear hi hz0 hz1 hz2
  have HV := hid hv
  obtain ⟨a, c, rfl⟩ := hv.shape
  have HE : Hid ([Value.int .u8 (x % 256), Value.int .u8 (x / 256)] = byv [x.toNat % 256, x.toNat / 256]) := by
    simp only [Hid, byv, List.map_cons, List.map_nil, List.cons.injEq, Value.int.injEq, true_and, and_true]
    omega
  clear hv
  have HB : Hid (l.length + 2 ≤ maxLen) := by unfold Hid maxLen; omega
  go_enter Tryz.func110, Tryz.ntmps110
  go_wp2_with (at_builtin; refine wpList_append_own_at _ rfl _ _ 143 rfl B 5 i0 (.int .u8 0) 1 1 Tryz.underlying143 HI.out.1 HI.out.2.1 HI.out.2.2.1 HI.out.2.2.2 rfl (by decide) (.slice a l.length c) l.length (byv l) rfl (HV.out.own.alloc _) ⟨w.heap.size, 0, none⟩ 2 2 [.int .u8 (x % 256), .int .u8 (x / 256)] rfl rfl byte_cells (fun u hu => by simp at hu; rcases hu with rfl | rfl <;> rfl) HB.out (by omega) (by simp; omega) ?_; intro v' w1 hown hgrow hnil hloc; obtain ⟨sb2, cp2, rfl⟩ := ownsB_pos hown)
  go_ret
  rw [HE.out] at hown
  obtain ⟨q1, q2⟩ := (HV.out.nob ((Only.refl Nob w).alloc _)).grown (m := [x.toNat % 256, x.toNat / 256]) hl hown hgrow
  exact ⟨_, rfl, q1, ((Only.refl _ w).alloc _).trans q2⟩

/-! Texts as lists of bytes. -/
def toS (l : List Nat) : ByteArray := ⟨(l.map UInt8.ofNat).toArray⟩
def nats (s : ByteArray) : List Nat := s.data.toList.map UInt8.toNat
def Bys (l : List Nat) : Prop := ∀ x ∈ l, x < 256
theorem nats_bys (s : ByteArray) : Bys (nats s) := fun x hx => by
  obtain ⟨b, _, rfl⟩ := List.mem_map.1 hx
  exact UInt8.toNat_lt b
theorem nats_len (s : ByteArray) : (nats s).length = s.size := by simp [nats]
theorem toS_size (l : List Nat) : (toS l).size = l.length := by simp [toS, ByteArray.size]
theorem nats_toS {l : List Nat} (h : Bys l) : nats (toS l) = l := by
  simp only [nats, toS, List.map_map]
  conv => rhs; rw [← List.map_id l]
  apply List.map_congr_left
  intro x hx
  have := h x hx
  simp only [Function.comp, UInt8.toNat_ofNat', id]
  omega
theorem toS_nats (s : ByteArray) : toS (nats s) = s := by
  apply ByteArray.ext
  simp only [toS, nats, List.map_map]
  have : (UInt8.ofNat ∘ UInt8.toNat) = id := by funext b; simp
  rw [this, List.map_id]
theorem nats_inj {s t : ByteArray} (h : nats s = nats t) : s = t := by rw [← toS_nats s, ← toS_nats t, h]
theorem nats_bt {s : ByteArray} {i : Nat} (h : i < s.size) : (s[i].toNat : Int) = (bt (nats s) i : Nat) := by
  rw [bt_lt (by rw [nats_len]; exact h)]
  simp [nats]
  rfl
theorem nats_extract (s : ByteArray) (a b : Nat) : nats (s.extract a b) = ((nats s).drop a).take (b - a) := by
  have : s.extract a b = toS (((nats s).drop a).take (b - a)) := by
    apply ByteArray.ext
    simp only [ByteArray.data_extract, toS, List.map_take, List.map_drop]
    have : (nats s).map UInt8.ofNat = s.data.toList := by
      simp only [nats, List.map_map]
      have : (UInt8.ofNat ∘ UInt8.toNat) = id := by funext b; simp
      rw [this, List.map_id]
    rw [this]
    apply Array.toList_inj.1
    simp
  rw [this, nats_toS]
  intro x hx
  exact nats_bys s x (List.mem_of_mem_drop (List.mem_of_mem_take hx))
theorem nats_append (s t : ByteArray) : nats (s ++ t) = nats s ++ nats t := by
  simp [nats, ByteArray.data_append]
theorem toS_append (a b : List Nat) : toS a ++ toS b = toS (a ++ b) := by
  apply ByteArray.ext
  simp [toS, ByteArray.data_append]

/-- string(b), of a slice of the call's own. -/
theorem Buf.string {B : Nat} {w : World} {v : Value} {l : List Nat} (h : Buf B w v l) (hb : Bys l) : (convert 143 9 v).run Tryz.prog w = .ok (.string (toS l)) w := by
  rcases h.own.2 with ⟨q, e⟩ | ⟨g, cap, cur, hv, _⟩
  · have : l = [] := List.eq_nil_of_length_eq_zero e
    subst this
    rw [q, run_convert_bytes_string w 143 9 5 none 0 0 Tryz.underlying143 Tryz.underlying5 Tryz.underlying9]
    rfl
  · have ho := h.own
    rw [hv] at ho ⊢
    have := run_convert_bytes_back (P := Tryz.prog) w 143 9 5 ⟨g, 0, none⟩ cap (l.map UInt8.ofNat) Tryz.underlying143 Tryz.underlying5 Tryz.underlying9 (fun j hj => by
      rw [List.length_map] at hj
      rw [add_at, ho.cellAt j (by omega)]
      simp only [byv, List.getElem?_map, List.getElem?_eq_getElem hj, Option.map_some, List.getElem_map]
      have := hb _ (List.getElem_mem hj)
      simp only [UInt8.toNat_ofNat']
      congr 2
      omega)
    rw [List.length_map] at this
    exact this

theorem bys_app {a b : List Nat} (ha : Bys a) (hb : Bys b) : Bys (a ++ b) := fun x hx => (List.mem_append.1 hx).elim (ha x) (hb x)
theorem bys_two {x : Int} (h : x ≤ 65535) : Bys [x.toNat % 256, x.toNat / 256] := fun y hy => by
  simp only [List.mem_cons, List.not_mem_nil, or_false] at hy
  rcases hy with rfl | rfl <;> omega

set_option maxRecDepth 100000 in
set_option maxHeartbeats 400000 in
theorem adler_any (w : World) (s : ByteArray) (hs : s.size ≤ maxLen) :
    Calls Tryz.prog 99 #[.string s] w fun e w' => e = .returned (.string (toS (checkL (nats s)))) ∧ Only Nob w w' := by
  unfold maxLen at hs
  have hnl := nats_len s
  go_enter Tryz.func99, Tryz.ntmps99
  go_wp2
  go_loop [3, 4, 8] (fun a b i => ∃ k : Nat, k ≤ s.size ∧ i = .int .i64 k ∧ a = .int .i64 ((adl ((nats s).take k)).1 : Nat) ∧ b = .int .i64 ((adl ((nats s).take k)).2 : Nat)) (fun _ _ i => s.size - (intOf i).toNat)
  case atStart => exact ⟨0, Nat.zero_le _, rfl, rfl, rfl⟩
  case round =>
    obtain ⟨k, hk, rfl, rfl, rfl⟩ := hrel
    have hd := adl_lt ((nats s).take k)
    by_cases hlt : k < s.size
    · have HS : Hid (adl ((nats s).take (k + 1)) = adlS (adl ((nats s).take k)) (bt (nats s) k)) := by
        rw [Hid, take_snoc (by omega), adl_snoc]
      have HB := hid (nats_bt hlt)
      have hb := bytes_bt (nats_bys s) k
      have hb2 : (s[k].toNat : Int) < 256 := by rw [HB.out]; omega
      have hb0 : (0 : Int) ≤ (s[k].toNat : Int) := by omega
      go_wp2
      go_round
      case rel => exact ⟨k + 1, by omega, by go_num, by rw [HS.out, HB.out, adlS]; go_num, by rw [HS.out, HB.out, adlS]; go_num⟩
      case measure => simp [intOf]; omega
    · have HK : Hid ((nats s).take k = nats s) := List.take_of_length_le (by omega)
      have h1 : (adl (nats s)).1 < 65521 ∧ (adl (nats s)).2 < 65521 := adl_lt _
      rw [HK.out] at hd
      rw [HK.out]
      go_wp2_with fail
      refine (appendWord_any _ w.heap.size _ [] ((adl (nats s)).1 : Nat) (Buf.nil _ _) (Nat.le_refl _) (by omega) (by omega) (by simp)).mono ?_
      rintro e w1 ⟨v1, rfl, hb1, ho1⟩
      go_wp2_with fail
      refine (appendWord_any _ w.heap.size _ _ ((adl (nats s)).2 : Nat) hb1 ho1.size (by omega) (by omega) (by simp)).mono ?_
      rintro e w2 ⟨v2, rfl, hb2, ho2⟩
      have hst := hb2.string (bys_app (bys_app (fun _ h => (by cases h)) (bys_two (by omega))) (bys_two (by omega)))
      go_wp2
      go_ret
      exact ⟨rfl, (ho1.trans ho2).of_ge (Nat.le_refl _)⟩

set_option maxRecDepth 100000 in
set_option maxHeartbeats 400000 in
theorem sum_any (w : World) (s : ByteArray) (hs : s.size ≤ maxLen) :
    Calls Tryz.prog 129 #[.string s] w fun e w' => e = .returned (.int .u16 (((nats s).sum % 65536 : Nat) : Int)) ∧ w = w' := by
  unfold maxLen at hs
  have hnl := nats_len s
  go_enter Tryz.func129, Tryz.ntmps129
  go_wp2
  go_loop [3, 7] (fun a i => ∃ k : Nat, k ≤ s.size ∧ i = .int .i64 k ∧ a = .int .u16 ((((nats s).take k).sum % 65536 : Nat) : Int)) (fun _ i => s.size - (intOf i).toNat)
  case atStart => exact ⟨0, Nat.zero_le _, rfl, rfl⟩
  case round =>
    obtain ⟨k, hk, rfl, rfl⟩ := hrel
    have hd : ((nats s).take k).sum % 65536 < 65536 := Nat.mod_lt _ (by omega)
    by_cases hlt : k < s.size
    · have HS : Hid (((nats s).take (k + 1)).sum = ((nats s).take k).sum + bt (nats s) k) := by
        rw [Hid, take_snoc (by omega), List.sum_append]; simp
      have HB := hid (nats_bt hlt)
      have hb := bytes_bt (nats_bys s) k
      have hb2 : (s[k].toNat : Int) < 256 := by rw [HB.out]; omega
      have hb0 : (0 : Int) ≤ (s[k].toNat : Int) := by omega
      go_wp2
      go_round
      case rel => exact ⟨k + 1, by omega, by go_num, by rw [HS.out, HB.out, IntKind.wrap_u16]; congr 1; omega⟩
      case measure => simp [intOf]; omega
    · have HK : Hid ((nats s).take k = nats s) := List.take_of_length_le (by omega)
      go_wp2
      go_ret
      exact ⟨by rw [HK.out]; rfl, rfl⟩

set_option maxRecDepth 100000 in
set_option maxHeartbeats 400000 in
theorem longSum_any (w : World) (s : ByteArray) (hs : s.size ≤ maxLen) :
    Calls Tryz.prog 119 #[.string s] w fun e w' => e = .returned (.string (toS [(nats s).sum % 256, (nats s).sum / 256 % 256])) ∧ Only Nob w w' := by
  have HE : Hid ([] ++ [((((nats s).sum % 65536 : Nat) : Int)).toNat % 256, ((((nats s).sum % 65536 : Nat) : Int)).toNat / 256] = [(nats s).sum % 256, (nats s).sum / 256 % 256]) := by
    simp only [Hid, List.nil_append, List.cons.injEq, and_true]
    omega
  have hd : (nats s).sum % 65536 < 65536 := Nat.mod_lt _ (by omega)
  go_enter Tryz.func119, Tryz.ntmps119
  go_wp2_with fail
  refine (sum_any _ s hs).mono ?_
  rintro e w1 ⟨rfl, rfl⟩
  go_wp2_with fail
  refine (appendWord_any _ w.heap.size _ [] (((nats s).sum % 65536 : Nat) : Int) (Buf.nil _ _) (Nat.le_refl _) (by omega) (by omega) (by simp)).mono ?_
  rintro e w1 ⟨v1, rfl, hb1, ho1⟩
  rw [HE.out] at hb1
  have hst := hb1.string (fun x hx => by simp only [List.mem_cons, List.not_mem_nil, or_false] at hx; rcases hx with rfl | rfl <;> omega)
  go_wp2
  go_ret
  exact ⟨rfl, ho1.of_ge (Nat.le_refl _)⟩

/-- string([]byte{..}), of one byte or two that were just laid. -/
theorem run_lit_string {w : World} {l : List Nat} {cs : Array Value} {n : Nat} (hn : l.length = n) (hc : cs.toList = byv l) (hb : Bys l) (h2 : l.length ≤ 2000) : (convert 143 9 (.slice (some ⟨w.heap.size, 0, none⟩) n n)).run Tryz.prog (w.alloc (.cells cs 5)) = .ok (.string (toS l)) (w.alloc (.cells cs 5)) := by
  have h : Buf 0 (w.alloc (.cells cs 5)) (.slice (some ⟨w.heap.size, 0, none⟩) n n) l := by
    have := World.ownsRow_lit (base := 0) (e := 5) (size := 1) w cs l.length (Nat.zero_le _) (by unfold maxLen; omega) (by rw [← Array.length_toList, hc, byv_len]; omega)
    rw [hc] at this
    subst hn
    exact ⟨this, h2⟩
  exact h.string hb

set_option maxRecDepth 100000 in
set_option maxHeartbeats 400000 in
theorem shortSum_any (w : World) (s : ByteArray) (hs : s.size ≤ maxLen) :
    Calls Tryz.prog 115 #[.string s] w fun e w' => e = .returned (.string (toS [(nats s).sum % 256])) ∧ Only Nob w w' := by
  have hd : (nats s).sum % 65536 < 65536 := Nat.mod_lt _ (by omega)
  have hst := fun w => run_lit_string (w := w) (l := [(nats s).sum % 256]) (cs := #[.int .u8 (((nats s).sum % 65536 : Nat) % 256 : Int)]) (n := 1) rfl (by simp only [byv, List.map_cons, List.map_nil, List.cons.injEq, and_true, Value.int.injEq, true_and]; omega) (fun x hx => by simp only [List.mem_cons, List.not_mem_nil, or_false] at hx; omega) (by simp)
  go_enter Tryz.func115, Tryz.ntmps115
  go_wp2_with fail
  refine (sum_any _ s hs).mono ?_
  rintro e w1 ⟨rfl, rfl⟩
  generalize hX : (((nats s).sum % 65536 : Nat) : Int) = X at *
  have hX0 : 0 ≤ X := by omega
  have hX1 : X < 65536 := by omega
  have HX := hid hX
  clear hX hd
  go_wp2
  go_ret
  exact ⟨rfl, (Only.refl _ _).alloc _⟩

set_option maxRecDepth 100000 in
set_option maxHeartbeats 400000 in
theorem rootByte_any (w : World) (r : Int) (h0 : -1 ≤ r) (h1 : r < 64) :
    Calls Tryz.prog 93 #[.int .i64 r] w fun e w' => e = .returned (.int .u8 (rootB r : Nat)) ∧ w = w' := by
  by_cases e : r = -1
  · subst e
    go_enter Tryz.func93, Tryz.ntmps93
    go_wp2
    go_ret
    exact ⟨rfl, rfl⟩
  · have HE : Hid ((rootB r : Nat) = r) := by simp only [Hid, rootB, if_neg e]; omega
    have he : (r == -1) = false := by simpa using e
    go_enter Tryz.func93, Tryz.ntmps93
    go_wp2
    go_ret
    exact ⟨by rw [HE.out]; go_num, rfl⟩
end Go.Proofs.YtfcepnhknmbaaaaGreat

/- The contracts of saved's isPresent, isWritable, isFilled, appendWords, appendBits, Write. -/
namespace Go.Proofs.YtfcepnhknmbaaaaGreat
open Go.RowKit Go.Deep

theorem fil_eq (P : Pic) (p : Nat) : P.fil p = !(P.wd p 0 == 0 && P.wd p 1 == 0 && P.wd p 2 == 0 && P.wd p 3 == 0 && P.wd p 4 == 0 && P.wd p 5 == 0 && P.wd p 6 == 0 && P.wd p 7 == 0) := by
  have e : List.range 8 = [0, 1, 2, 3, 4, 5, 6, 7] := rfl
  simp only [Pic.fil, e, List.any_cons, List.any_nil, Bool.or_false, bne, Bool.not_and, Bool.or_assoc]

theorem run_eq8' (n : Nat) (a b c d e f g h : Int) (w : World) : (Op.equalIn (n + 2) 86 (.agg #[.int .u16 a, .int .u16 b, .int .u16 c, .int .u16 d, .int .u16 e, .int .u16 f, .int .u16 g, .int .u16 h]) (.agg #[.int .u16 0, .int .u16 0, .int .u16 0, .int .u16 0, .int .u16 0, .int .u16 0, .int .u16 0, .int .u16 0])).run Tryz.prog w = .ok (a == 0 && b == 0 && c == 0 && d == 0 && e == 0 && f == 0 && g == 0 && h == 0) w := by
  have hs : ∀ w, (sizeOf 85).run Tryz.prog w = .ok 1 w := fun _ => by kernel_rfl
  have ha : ∀ w, (isAgg 85).run Tryz.prog w = .ok false w := fun _ => by kernel_rfl
  have heq : ∀ (x y : Int), (Op.equalIn (n + 1) 85 (.int .u16 x) (.int .u16 y)).run Tryz.prog w = .ok (x == y) w := fun x y => by
    simp only [Op.equalIn, Sem.run_bind, run_underlying Tryz.underlying85, Result.andThen_ok, if_true, Sem.run_pure]
  generalize hk : n + 1 = k at *
  rw [show n + 2 = k + 1 by omega]
  simp only [Op.equalIn, Sem.run_bind, run_underlying Tryz.underlying86, Result.andThen_ok, hs]
  simp [Std.Legacy.Range.forIn_eq_forIn_range', List.range', part, ha, heq]
  (repeat' split) <;> simp_all
theorem run_eq8 (a b c d e f g h : Int) (w : World) : (Op.equalIn 10000 86 (.agg #[.int .u16 a, .int .u16 b, .int .u16 c, .int .u16 d, .int .u16 e, .int .u16 f, .int .u16 g, .int .u16 h]) (.agg #[.int .u16 0, .int .u16 0, .int .u16 0, .int .u16 0, .int .u16 0, .int .u16 0, .int .u16 0, .int .u16 0])).run Tryz.prog w = .ok (a == 0 && b == 0 && c == 0 && d == 0 && e == 0 && f == 0 && g == 0 && h == 0) w := run_eq8' 9998 a b c d e f g h w

set_option maxRecDepth 100000 in
set_option maxHeartbeats 400000 in
theorem isPresent_any (w : World) (P : Pic) (p : Nat) : Calls Tryz.prog 95 #[.agg (pageV P p)] w fun e w' => e = .returned (.bool (P.pr p)) ∧ Only Nob w w' := by
  unfold pageV
  go_enter Tryz.func95, Tryz.ntmps95
  go_wp2
  go_ret
  exact ⟨rfl, (Only.refl _ _).alloc _⟩

set_option maxRecDepth 100000 in
set_option maxHeartbeats 400000 in
theorem isWritable_any (w : World) (P : Pic) (p : Nat) : Calls Tryz.prog 96 #[.agg (pageV P p)] w fun e w' => e = .returned (.bool (P.wr p)) ∧ Only Nob w w' := by
  unfold pageV
  go_enter Tryz.func96, Tryz.ntmps96
  go_wp2
  go_ret
  exact ⟨rfl, (Only.refl _ _).alloc _⟩

set_option maxRecDepth 100000 in
set_option maxHeartbeats 400000 in
theorem isFilled_any (w : World) (P : Pic) (p : Nat) : Calls Tryz.prog 97 #[.agg (pageV P p)] w fun e w' => e = .returned (.bool (P.fil p)) ∧ Only Nob w w' := by
  have HF := hid (fil_eq P p)
  have hq := run_eq8 (P.wd p 0) (P.wd p 1) (P.wd p 2) (P.wd p 3) (P.wd p 4) (P.wd p 5) (P.wd p 6) (P.wd p 7)
  generalize (P.wd p 0 == 0 && P.wd p 1 == 0 && P.wd p 2 == 0 && P.wd p 3 == 0 && P.wd p 4 == 0 && P.wd p 5 == 0 && P.wd p 6 == 0 && P.wd p 7 == 0) = z at *
  unfold pageV
  go_enter Tryz.func97, Tryz.ntmps97
  go_wp2
  go_ret
  exact ⟨by rw [HF.out]; rfl, (Only.refl _ _).alloc _⟩

set_option maxRecDepth 100000 in
set_option maxHeartbeats 400000 in
theorem appendWords_any (w : World) (B : Nat) (v : Value) (l : List Nat) (P : Pic) (p : Nat) (hv : Buf B w v l) (hB : B ≤ w.heap.size) (hw : ∀ k, k < 8 → 0 ≤ P.wd p k ∧ P.wd p k ≤ 65535) (hl : l.length + 16 ≤ 2000) :
    Calls Tryz.prog 98 #[v, .agg (wordsV P p)] w fun e w' => ∃ v', e = .returned v' ∧ Buf B w' v' (l ++ pageB P p 8) ∧ Only (Ge B) w w' := by
  have hx : ∀ k : Nat, k < 8 → ∀ w : World, (Instr.index 86 (.agg #[.int .u16 (P.wd p 0), .int .u16 (P.wd p 1), .int .u16 (P.wd p 2), .int .u16 (P.wd p 3), .int .u16 (P.wd p 4), .int .u16 (P.wd p 5), .int .u16 (P.wd p 6), .int .u16 (P.wd p 7)]) (.int .i64 k)).run Tryz.prog w = .ok (.int .u16 (P.wd p k)) w := run_word P p
  have HV := hid hv
  clear hv
  unfold wordsV
  go_enter Tryz.func98, Tryz.ntmps98
  go_wp2
  go_loopw [0, 8] (fun s c wr => ∃ k : Nat, k ≤ 8 ∧ c = .int .i64 k ∧ Buf B wr s (l ++ pageB P p k) ∧ Only (Ge B) w wr) (fun _ c _ => 8 - (intOf c).toNat)
  case atStart => exact ⟨0, by omega, rfl, by simpa [pageB] using HV.out.nob ((Only.refl Nob w).alloc _), (Only.refl _ _).alloc _⟩
  case round =>
    obtain ⟨k, hk, rfl, hb, hO⟩ := hrel
    by_cases hlt : k < 8
    · have hxk := hx k hlt
      have hwk := hw k hlt
      have hpl := pageB_len P p k
      have hbn := hO.size
      go_wp2_with fail
      refine (appendWord_any _ B _ (l ++ pageB P p k) (P.wd p k) hb (by omega) hwk.1 hwk.2 (by simp [hpl]; omega)).mono ?_
      rintro e w2 ⟨v2, rfl, hb2, ho2⟩
      go_wp2_with fail
      go_roundw
      case rel => exact ⟨k + 1, by omega, by go_num, by rw [pageB, ← List.append_assoc]; exact hb2, hO.trans ho2⟩
      case measure => simp [intOf]; omega
    · have e8 : k = 8 := by omega
      subst e8
      go_wp2
      go_ret
      exact ⟨_, rfl, hb, hO⟩

/-- The bits that pages below n have set. -/
def bitCell (f : Nat → Bool) (n j : Nat) : Value := .int .u8 ((b8 f j (min 8 (n - 8 * j)) : Nat) : Int)

theorem or_pow {X i : Nat} (h : X < 2 ^ i) (hi : i < 8) : bits BinOp.or IntKind.u8 ((X : Nat) : Int) (2 ^ i % 256) = ((X + 2 ^ i : Nat) : Int) := by
  have hp : 2 ^ i < 256 := Nat.lt_of_le_of_lt (Nat.pow_le_pow_right (by omega) (show i ≤ 7 by omega)) (by omega)
  have e : ((2 : Int) ^ i % 256) = ((2 ^ i : Nat) : Int) := by
    have : ((2 : Int) ^ i) = ((2 ^ i : Nat) : Int) := by simp
    rw [this]
    omega
  rw [e, u8_or_nat _ _ (by omega) hp]
  congr 1
  rw [Nat.add_comm, Nat.or_comm]
  have := Nat.two_pow_add_eq_or_of_lt (i := i) (b := X) h 1
  simp only [Nat.mul_one] at this
  exact this.symm
theorem bitCell_at (f : Nat → Bool) (k : Nat) : bitCell f k (k / 8) = .int .u8 ((b8 f (k / 8) (k % 8) : Nat) : Int) := by
  rw [bitCell, show min 8 (k - 8 * (k / 8)) = k % 8 by omega]
theorem bitCell_zero (f : Nat → Bool) : ∀ i, i < (#[Value.int .u8 0, .int .u8 0, .int .u8 0, .int .u8 0, .int .u8 0, .int .u8 0, .int .u8 0, .int .u8 0] : Array Value).size → (#[Value.int .u8 0, .int .u8 0, .int .u8 0, .int .u8 0, .int .u8 0, .int .u8 0, .int .u8 0, .int .u8 0] : Array Value)[i]? = some (bitCell f 0 i) := fun i hi => by
  have hi : i < 8 := hi
  have e : i = 0 ∨ i = 1 ∨ i = 2 ∨ i = 3 ∨ i = 4 ∨ i = 5 ∨ i = 6 ∨ i = 7 := by omega
  rcases e with e | e | e | e | e | e | e | e <;> subst e <;> rfl
theorem bitCell_no {f : Nat → Bool} {k : Nat} (h : f k = false) (j : Nat) : bitCell f k j = bitCell f (k + 1) j := by
  simp only [bitCell]
  by_cases e : j = k / 8
  · subst e
    rw [show min 8 (k + 1 - 8 * (k / 8)) = k % 8 + 1 by omega, show min 8 (k - 8 * (k / 8)) = k % 8 by omega, b8, show 8 * (k / 8) + k % 8 = k by omega, h]
    simp
  · rw [show min 8 (k + 1 - 8 * j) = min 8 (k - 8 * j) by omega]
theorem bitCell_yes {f : Nat → Bool} {k : Nat} (h : f k = true) (j : Nat) : bitCell f (k + 1) j = if j = k / 8 then .int .u8 ((b8 f (k / 8) (k % 8) + 2 ^ (k % 8) : Nat) : Int) else bitCell f k j := by
  by_cases e : j = k / 8
  · subst e
    rw [if_pos rfl, bitCell, show min 8 (k + 1 - 8 * (k / 8)) = k % 8 + 1 by omega, b8, show 8 * (k / 8) + k % 8 = k by omega, h]
    rfl
  · rw [if_neg e, bitCell, bitCell, show min 8 (k + 1 - 8 * j) = min 8 (k - 8 * j) by omega]

set_option maxRecDepth 100000 in
set_option maxHeartbeats 1000000 in
theorem appendPr_any (P : Pic) (w : World) (B : Nat) (v : Value) (l : List Nat) (gb : Nat) (hg : w.rangeAt gb 0 (picV P).toList) (hgb : gb < B) (hv : Buf B w v l) (hB : B ≤ w.heap.size) (hl : l.length + 8 ≤ 2000) :
    Calls Tryz.prog 94 #[v, .pointer (some ⟨gb, 1, none⟩), .func (.func 95) #[] #[]] w fun e w' => ∃ v', e = .returned v' ∧ Buf B w' v' (l ++ bitsTo P.pr 8) ∧ Only (Ge B) w w' := by
  have HV := hid hv
  obtain ⟨sa, sc, rfl⟩ := hv.shape
  clear hv
  go_enter Tryz.func94, Tryz.ntmps94
  go_wp2
  go_loopw [8, 12] (fun s c wr => ∃ k : Nat, k ≤ 64 ∧ c = .int .i64 k ∧ wr.rowIs w.heap.size 161 8 (bitCell P.pr k) ∧ Only (One w.heap.size) (w.alloc (.cells #[.int .u8 0, .int .u8 0, .int .u8 0, .int .u8 0, .int .u8 0, .int .u8 0, .int .u8 0, .int .u8 0] 161)) wr) (fun _ c _ => 64 - (intOf c).toNat)
  case atStart => exact ⟨0, by omega, rfl, World.rowIs_alloc w #[.int .u8 0, .int .u8 0, .int .u8 0, .int .u8 0, .int .u8 0, .int .u8 0, .int .u8 0, .int .u8 0] 161 (bitCell P.pr 0) (bitCell_zero P.pr), Only.refl _ _⟩
  case round =>
    obtain ⟨k, hk, rfl, hr, hO⟩ := hrel
    by_cases hlt : k < 64
    · have hcell : ∀ i, i < 10 → wr.cell? ⟨gb, 1 + k * 10 + i, none⟩ = some (pageCell P k i) := fun i hi => by
        have h1 : w.cell? ⟨gb, 1 + k * 10 + i, none⟩ = some (pageCell P k i) := by
          have := hg (1 + k * 10 + i) (picCell P (1 + k * 10 + i)) (by rw [Array.getElem?_toList, picV_get P _ (by omega)])
          rw [Nat.zero_add] at this
          rw [this, picCell, if_neg (by omega), show (1 + k * 10 + i - 1) / 10 = k by omega, show (1 + k * 10 + i - 1) % 10 = i by omega]
        exact hO.keep (p := ⟨gb, 1 + k * 10 + i, none⟩) (fun q => by simp only [One] at q; omega) (((Only.refl Nob w).alloc _).keep (fun q => q) h1)
      have q0 := hcell 0 (by omega)
      have q1 := hcell 1 (by omega)
      have q2 := hcell 2 (by omega)
      have q3 := hcell 3 (by omega)
      have q4 := hcell 4 (by omega)
      have q5 := hcell 5 (by omega)
      have q6 := hcell 6 (by omega)
      have q7 := hcell 7 (by omega)
      have q8 := hcell 8 (by omega)
      have q9 := hcell 9 (by omega)
      simp only [pageCell, Nat.add_zero] at q0 q1 q2 q3 q4 q5 q6 q7 q8 q9
      clear hcell
      have hsz := hO.size
      simp only [World.size_alloc] at hsz
      have hgl : gb < wr.heap.size := by omega
      go_wp2_with fail
      go_region
      all_goals go_wp2_with fail
      refine (isPresent_any _ P k).mono ?_
      rintro e w2 ⟨rfl, ho2⟩
      clear q0 q1 q2 q3 q4 q5 q6 q7 q8 q9
      have hO2 : Only Nob wr w2 := (((Only.refl Nob wr).alloc _).drew).trans ho2
      have hr2 := hO2.row hr (fun q => q)
      have HO2 := hid (hO.trans hO2.of_nob)
      clear ho2 hO2 hr hO
      cases hfk : P.pr k with
      | false =>
        go_wp2_with fail
        go_roundw
        case rel => exact ⟨k + 1, by omega, by go_num, hr2.congr (fun j hj => bitCell_no hfk j), HO2.out⟩
        case measure => simp [intOf]; omega
      | true =>
        have hcl := hr2.cell (show k / 8 < 8 by omega)
        have hfz := hr2.frozen (k / 8)
        rw [bitCell_at] at hcl
        have hblt := b8_lt P.pr (k / 8) (k % 8)
        have hpow : 2 ^ (k % 8) ≤ 2 ^ 7 := Nat.pow_le_pow_right (by omega) (by omega)
        generalize hX : b8 P.pr (k / 8) (k % 8) = X at *
        go_wp2_with fail
        go_region
        have hor : bits BinOp.or IntKind.u8 ((X : Nat) : Int) (2 ^ (k % 8) % 256) = ((X + 2 ^ (k % 8) : Nat) : Int) := or_pow hblt (by omega)
        rw [hor]
        go_wp2_with fail
        go_roundw
        case rel =>
          refine ⟨k + 1, by omega, by go_num, ((hr2.set (k / 8) _).congr (fun j hj => ?_)).drew, (HO2.out.setOne _ _).drew⟩
          rw [bitCell_yes hfk j, hX]
          simp
        case measure => simp [intOf]; omega
    · have e64 : k = 64 := by omega
      subst e64
      have hO0 : Only (One w.heap.size) w wr := ((Only.refl _ w).alloc _).trans hO
      have HB1 := hid (HV.out.only hO0 (fun b h1 h2 q => by simp only [One] at q; omega))
      have HO1 : Hid (Only (Ge B) w wr) := hO0.mono (fun b hb q => by simp only [One] at q; omega)
      have hsz := hO0.size
      obtain ⟨i0, hi, hzz⟩ := Option.map_eq_some_iff.1 u8_info
      simp only [Prod.mk.injEq] at hzz
      obtain ⟨hz0, hz1, hz2⟩ := hzz
      have HI := hid (And.intro hi (And.intro hz0 (And.intro hz1 hz2)))
      clear hi hz0 hz1 hz2 hO hO0
      have HB : Hid (l.length + 8 ≤ maxLen) := by unfold Hid maxLen; omega
      have HN : Hid (∀ j u, (byv (bitsTo P.pr 8))[j]? = some u → wr.cell? ((⟨w.heap.size, 0, none⟩ : Addr).add j) = some u) := fun j u hu => by
        rw [add_at]
        have hj : j < 8 := by
          rcases Nat.lt_or_ge j 8 with q | q
          · exact q
          · rw [List.getElem?_eq_none (by rw [byv_len, bitsTo_len]; exact q)] at hu; cases hu
        rw [hr.cell hj, ← hu, byv, List.getElem?_map, List.getElem?_eq_getElem (by rw [bitsTo_len]; exact hj), Option.map_some, ← bt_lt, bitsTo_bt _ 8 j hj, bitCell, show min 8 (64 - 8 * j) = 8 by omega]
        rfl
      have HL : Hid ((byv (bitsTo P.pr 8)).length = 8 * 1) := by rw [Hid, byv_len, bitsTo_len]
      have H1 : Hid (∀ u ∈ byv (bitsTo P.pr 8), u.oneCell' = true) := fun u hu => by
        obtain ⟨x, _, rfl⟩ := List.mem_map.1 hu
        rfl
      go_wp2_with (at_builtin; refine wpList_append_own_at _ rfl _ _ 143 rfl B 5 i0 (.int .u8 0) 1 1 Tryz.underlying143 HI.out.1 HI.out.2.1 HI.out.2.2.1 HI.out.2.2.2 rfl (by decide) (.slice sa l.length sc) l.length (byv l) rfl HB1.out.own ⟨w.heap.size, 0, none⟩ 8 8 (byv (bitsTo P.pr 8)) rfl HL.out HN.out H1.out HB.out (by omega) (by omega) ?_; intro v' w1 hown hgrow hnil hloc; obtain ⟨sb2, cp2, rfl⟩ := ownsB_pos hown)
      go_ret
      obtain ⟨q1, q2⟩ := HB1.out.grown (m := bitsTo P.pr 8) (by rw [bitsTo_len]; exact hl) (by rw [bitsTo_len]; exact hown) hgrow
      exact ⟨_, rfl, q1, HO1.out.trans q2⟩
set_option maxRecDepth 100000 in
set_option maxHeartbeats 1000000 in
theorem appendWr_any (P : Pic) (w : World) (B : Nat) (v : Value) (l : List Nat) (gb : Nat) (hg : w.rangeAt gb 0 (picV P).toList) (hgb : gb < B) (hv : Buf B w v l) (hB : B ≤ w.heap.size) (hl : l.length + 8 ≤ 2000) :
    Calls Tryz.prog 94 #[v, .pointer (some ⟨gb, 1, none⟩), .func (.func 96) #[] #[]] w fun e w' => ∃ v', e = .returned v' ∧ Buf B w' v' (l ++ bitsTo P.wr 8) ∧ Only (Ge B) w w' := by
  have HV := hid hv
  obtain ⟨sa, sc, rfl⟩ := hv.shape
  clear hv
  go_enter Tryz.func94, Tryz.ntmps94
  go_wp2
  go_loopw [8, 12] (fun s c wr => ∃ k : Nat, k ≤ 64 ∧ c = .int .i64 k ∧ wr.rowIs w.heap.size 161 8 (bitCell P.wr k) ∧ Only (One w.heap.size) (w.alloc (.cells #[.int .u8 0, .int .u8 0, .int .u8 0, .int .u8 0, .int .u8 0, .int .u8 0, .int .u8 0, .int .u8 0] 161)) wr) (fun _ c _ => 64 - (intOf c).toNat)
  case atStart => exact ⟨0, by omega, rfl, World.rowIs_alloc w #[.int .u8 0, .int .u8 0, .int .u8 0, .int .u8 0, .int .u8 0, .int .u8 0, .int .u8 0, .int .u8 0] 161 (bitCell P.wr 0) (bitCell_zero P.wr), Only.refl _ _⟩
  case round =>
    obtain ⟨k, hk, rfl, hr, hO⟩ := hrel
    by_cases hlt : k < 64
    · have hcell : ∀ i, i < 10 → wr.cell? ⟨gb, 1 + k * 10 + i, none⟩ = some (pageCell P k i) := fun i hi => by
        have h1 : w.cell? ⟨gb, 1 + k * 10 + i, none⟩ = some (pageCell P k i) := by
          have := hg (1 + k * 10 + i) (picCell P (1 + k * 10 + i)) (by rw [Array.getElem?_toList, picV_get P _ (by omega)])
          rw [Nat.zero_add] at this
          rw [this, picCell, if_neg (by omega), show (1 + k * 10 + i - 1) / 10 = k by omega, show (1 + k * 10 + i - 1) % 10 = i by omega]
        exact hO.keep (p := ⟨gb, 1 + k * 10 + i, none⟩) (fun q => by simp only [One] at q; omega) (((Only.refl Nob w).alloc _).keep (fun q => q) h1)
      have q0 := hcell 0 (by omega)
      have q1 := hcell 1 (by omega)
      have q2 := hcell 2 (by omega)
      have q3 := hcell 3 (by omega)
      have q4 := hcell 4 (by omega)
      have q5 := hcell 5 (by omega)
      have q6 := hcell 6 (by omega)
      have q7 := hcell 7 (by omega)
      have q8 := hcell 8 (by omega)
      have q9 := hcell 9 (by omega)
      simp only [pageCell, Nat.add_zero] at q0 q1 q2 q3 q4 q5 q6 q7 q8 q9
      clear hcell
      have hsz := hO.size
      simp only [World.size_alloc] at hsz
      have hgl : gb < wr.heap.size := by omega
      go_wp2_with fail
      go_region
      all_goals go_wp2_with fail
      refine (isWritable_any _ P k).mono ?_
      rintro e w2 ⟨rfl, ho2⟩
      clear q0 q1 q2 q3 q4 q5 q6 q7 q8 q9
      have hO2 : Only Nob wr w2 := (((Only.refl Nob wr).alloc _).drew).trans ho2
      have hr2 := hO2.row hr (fun q => q)
      have HO2 := hid (hO.trans hO2.of_nob)
      clear ho2 hO2 hr hO
      cases hfk : P.wr k with
      | false =>
        go_wp2_with fail
        go_roundw
        case rel => exact ⟨k + 1, by omega, by go_num, hr2.congr (fun j hj => bitCell_no hfk j), HO2.out⟩
        case measure => simp [intOf]; omega
      | true =>
        have hcl := hr2.cell (show k / 8 < 8 by omega)
        have hfz := hr2.frozen (k / 8)
        rw [bitCell_at] at hcl
        have hblt := b8_lt P.wr (k / 8) (k % 8)
        have hpow : 2 ^ (k % 8) ≤ 2 ^ 7 := Nat.pow_le_pow_right (by omega) (by omega)
        generalize hX : b8 P.wr (k / 8) (k % 8) = X at *
        go_wp2_with fail
        go_region
        have hor : bits BinOp.or IntKind.u8 ((X : Nat) : Int) (2 ^ (k % 8) % 256) = ((X + 2 ^ (k % 8) : Nat) : Int) := or_pow hblt (by omega)
        rw [hor]
        go_wp2_with fail
        go_roundw
        case rel =>
          refine ⟨k + 1, by omega, by go_num, ((hr2.set (k / 8) _).congr (fun j hj => ?_)).drew, (HO2.out.setOne _ _).drew⟩
          rw [bitCell_yes hfk j, hX]
          simp
        case measure => simp [intOf]; omega
    · have e64 : k = 64 := by omega
      subst e64
      have hO0 : Only (One w.heap.size) w wr := ((Only.refl _ w).alloc _).trans hO
      have HB1 := hid (HV.out.only hO0 (fun b h1 h2 q => by simp only [One] at q; omega))
      have HO1 : Hid (Only (Ge B) w wr) := hO0.mono (fun b hb q => by simp only [One] at q; omega)
      have hsz := hO0.size
      obtain ⟨i0, hi, hzz⟩ := Option.map_eq_some_iff.1 u8_info
      simp only [Prod.mk.injEq] at hzz
      obtain ⟨hz0, hz1, hz2⟩ := hzz
      have HI := hid (And.intro hi (And.intro hz0 (And.intro hz1 hz2)))
      clear hi hz0 hz1 hz2 hO hO0
      have HB : Hid (l.length + 8 ≤ maxLen) := by unfold Hid maxLen; omega
      have HN : Hid (∀ j u, (byv (bitsTo P.wr 8))[j]? = some u → wr.cell? ((⟨w.heap.size, 0, none⟩ : Addr).add j) = some u) := fun j u hu => by
        rw [add_at]
        have hj : j < 8 := by
          rcases Nat.lt_or_ge j 8 with q | q
          · exact q
          · rw [List.getElem?_eq_none (by rw [byv_len, bitsTo_len]; exact q)] at hu; cases hu
        rw [hr.cell hj, ← hu, byv, List.getElem?_map, List.getElem?_eq_getElem (by rw [bitsTo_len]; exact hj), Option.map_some, ← bt_lt, bitsTo_bt _ 8 j hj, bitCell, show min 8 (64 - 8 * j) = 8 by omega]
        rfl
      have HL : Hid ((byv (bitsTo P.wr 8)).length = 8 * 1) := by rw [Hid, byv_len, bitsTo_len]
      have H1 : Hid (∀ u ∈ byv (bitsTo P.wr 8), u.oneCell' = true) := fun u hu => by
        obtain ⟨x, _, rfl⟩ := List.mem_map.1 hu
        rfl
      go_wp2_with (at_builtin; refine wpList_append_own_at _ rfl _ _ 143 rfl B 5 i0 (.int .u8 0) 1 1 Tryz.underlying143 HI.out.1 HI.out.2.1 HI.out.2.2.1 HI.out.2.2.2 rfl (by decide) (.slice sa l.length sc) l.length (byv l) rfl HB1.out.own ⟨w.heap.size, 0, none⟩ 8 8 (byv (bitsTo P.wr 8)) rfl HL.out HN.out H1.out HB.out (by omega) (by omega) ?_; intro v' w1 hown hgrow hnil hloc; obtain ⟨sb2, cp2, rfl⟩ := ownsB_pos hown)
      go_ret
      obtain ⟨q1, q2⟩ := HB1.out.grown (m := bitsTo P.wr 8) (by rw [bitsTo_len]; exact hl) (by rw [bitsTo_len]; exact hown) hgrow
      exact ⟨_, rfl, q1, HO1.out.trans q2⟩
set_option maxRecDepth 100000 in
set_option maxHeartbeats 1000000 in
theorem appendFl_any (P : Pic) (w : World) (B : Nat) (v : Value) (l : List Nat) (gb : Nat) (hg : w.rangeAt gb 0 (picV P).toList) (hgb : gb < B) (hv : Buf B w v l) (hB : B ≤ w.heap.size) (hl : l.length + 8 ≤ 2000) :
    Calls Tryz.prog 94 #[v, .pointer (some ⟨gb, 1, none⟩), .func (.func 97) #[] #[]] w fun e w' => ∃ v', e = .returned v' ∧ Buf B w' v' (l ++ bitsTo P.fil 8) ∧ Only (Ge B) w w' := by
  have HV := hid hv
  obtain ⟨sa, sc, rfl⟩ := hv.shape
  clear hv
  go_enter Tryz.func94, Tryz.ntmps94
  go_wp2
  go_loopw [8, 12] (fun s c wr => ∃ k : Nat, k ≤ 64 ∧ c = .int .i64 k ∧ wr.rowIs w.heap.size 161 8 (bitCell P.fil k) ∧ Only (One w.heap.size) (w.alloc (.cells #[.int .u8 0, .int .u8 0, .int .u8 0, .int .u8 0, .int .u8 0, .int .u8 0, .int .u8 0, .int .u8 0] 161)) wr) (fun _ c _ => 64 - (intOf c).toNat)
  case atStart => exact ⟨0, by omega, rfl, World.rowIs_alloc w #[.int .u8 0, .int .u8 0, .int .u8 0, .int .u8 0, .int .u8 0, .int .u8 0, .int .u8 0, .int .u8 0] 161 (bitCell P.fil 0) (bitCell_zero P.fil), Only.refl _ _⟩
  case round =>
    obtain ⟨k, hk, rfl, hr, hO⟩ := hrel
    by_cases hlt : k < 64
    · have hcell : ∀ i, i < 10 → wr.cell? ⟨gb, 1 + k * 10 + i, none⟩ = some (pageCell P k i) := fun i hi => by
        have h1 : w.cell? ⟨gb, 1 + k * 10 + i, none⟩ = some (pageCell P k i) := by
          have := hg (1 + k * 10 + i) (picCell P (1 + k * 10 + i)) (by rw [Array.getElem?_toList, picV_get P _ (by omega)])
          rw [Nat.zero_add] at this
          rw [this, picCell, if_neg (by omega), show (1 + k * 10 + i - 1) / 10 = k by omega, show (1 + k * 10 + i - 1) % 10 = i by omega]
        exact hO.keep (p := ⟨gb, 1 + k * 10 + i, none⟩) (fun q => by simp only [One] at q; omega) (((Only.refl Nob w).alloc _).keep (fun q => q) h1)
      have q0 := hcell 0 (by omega)
      have q1 := hcell 1 (by omega)
      have q2 := hcell 2 (by omega)
      have q3 := hcell 3 (by omega)
      have q4 := hcell 4 (by omega)
      have q5 := hcell 5 (by omega)
      have q6 := hcell 6 (by omega)
      have q7 := hcell 7 (by omega)
      have q8 := hcell 8 (by omega)
      have q9 := hcell 9 (by omega)
      simp only [pageCell, Nat.add_zero] at q0 q1 q2 q3 q4 q5 q6 q7 q8 q9
      clear hcell
      have hsz := hO.size
      simp only [World.size_alloc] at hsz
      have hgl : gb < wr.heap.size := by omega
      go_wp2_with fail
      go_region
      all_goals go_wp2_with fail
      refine (isFilled_any _ P k).mono ?_
      rintro e w2 ⟨rfl, ho2⟩
      clear q0 q1 q2 q3 q4 q5 q6 q7 q8 q9
      have hO2 : Only Nob wr w2 := (((Only.refl Nob wr).alloc _).drew).trans ho2
      have hr2 := hO2.row hr (fun q => q)
      have HO2 := hid (hO.trans hO2.of_nob)
      clear ho2 hO2 hr hO
      cases hfk : P.fil k with
      | false =>
        go_wp2_with fail
        go_roundw
        case rel => exact ⟨k + 1, by omega, by go_num, hr2.congr (fun j hj => bitCell_no hfk j), HO2.out⟩
        case measure => simp [intOf]; omega
      | true =>
        have hcl := hr2.cell (show k / 8 < 8 by omega)
        have hfz := hr2.frozen (k / 8)
        rw [bitCell_at] at hcl
        have hblt := b8_lt P.fil (k / 8) (k % 8)
        have hpow : 2 ^ (k % 8) ≤ 2 ^ 7 := Nat.pow_le_pow_right (by omega) (by omega)
        generalize hX : b8 P.fil (k / 8) (k % 8) = X at *
        go_wp2_with fail
        go_region
        have hor : bits BinOp.or IntKind.u8 ((X : Nat) : Int) (2 ^ (k % 8) % 256) = ((X + 2 ^ (k % 8) : Nat) : Int) := or_pow hblt (by omega)
        rw [hor]
        go_wp2_with fail
        go_roundw
        case rel =>
          refine ⟨k + 1, by omega, by go_num, ((hr2.set (k / 8) _).congr (fun j hj => ?_)).drew, (HO2.out.setOne _ _).drew⟩
          rw [bitCell_yes hfk j, hX]
          simp
        case measure => simp [intOf]; omega
    · have e64 : k = 64 := by omega
      subst e64
      have hO0 : Only (One w.heap.size) w wr := ((Only.refl _ w).alloc _).trans hO
      have HB1 := hid (HV.out.only hO0 (fun b h1 h2 q => by simp only [One] at q; omega))
      have HO1 : Hid (Only (Ge B) w wr) := hO0.mono (fun b hb q => by simp only [One] at q; omega)
      have hsz := hO0.size
      obtain ⟨i0, hi, hzz⟩ := Option.map_eq_some_iff.1 u8_info
      simp only [Prod.mk.injEq] at hzz
      obtain ⟨hz0, hz1, hz2⟩ := hzz
      have HI := hid (And.intro hi (And.intro hz0 (And.intro hz1 hz2)))
      clear hi hz0 hz1 hz2 hO hO0
      have HB : Hid (l.length + 8 ≤ maxLen) := by unfold Hid maxLen; omega
      have HN : Hid (∀ j u, (byv (bitsTo P.fil 8))[j]? = some u → wr.cell? ((⟨w.heap.size, 0, none⟩ : Addr).add j) = some u) := fun j u hu => by
        rw [add_at]
        have hj : j < 8 := by
          rcases Nat.lt_or_ge j 8 with q | q
          · exact q
          · rw [List.getElem?_eq_none (by rw [byv_len, bitsTo_len]; exact q)] at hu; cases hu
        rw [hr.cell hj, ← hu, byv, List.getElem?_map, List.getElem?_eq_getElem (by rw [bitsTo_len]; exact hj), Option.map_some, ← bt_lt, bitsTo_bt _ 8 j hj, bitCell, show min 8 (64 - 8 * j) = 8 by omega]
        rfl
      have HL : Hid ((byv (bitsTo P.fil 8)).length = 8 * 1) := by rw [Hid, byv_len, bitsTo_len]
      have H1 : Hid (∀ u ∈ byv (bitsTo P.fil 8), u.oneCell' = true) := fun u hu => by
        obtain ⟨x, _, rfl⟩ := List.mem_map.1 hu
        rfl
      go_wp2_with (at_builtin; refine wpList_append_own_at _ rfl _ _ 143 rfl B 5 i0 (.int .u8 0) 1 1 Tryz.underlying143 HI.out.1 HI.out.2.1 HI.out.2.2.1 HI.out.2.2.2 rfl (by decide) (.slice sa l.length sc) l.length (byv l) rfl HB1.out.own ⟨w.heap.size, 0, none⟩ 8 8 (byv (bitsTo P.fil 8)) rfl HL.out HN.out H1.out HB.out (by omega) (by omega) ?_; intro v' w1 hown hgrow hnil hloc; obtain ⟨sb2, cp2, rfl⟩ := ownsB_pos hown)
      go_ret
      obtain ⟨q1, q2⟩ := HB1.out.grown (m := bitsTo P.fil 8) (by rw [bitsTo_len]; exact hl) (by rw [bitsTo_len]; exact hown) hgrow
      exact ⟨_, rfl, q1, HO1.out.trans q2⟩
end Go.Proofs.YtfcepnhknmbaaaaGreat

/- The contract of saved's Write: the bytes of form 3. -/
namespace Go.Proofs.YtfcepnhknmbaaaaGreat
open Go.RowKit Go.Deep

theorem range_words {w : World} {gb k : Nat} {P : Pic} (hg : w.rangeAt gb 0 (picV P).toList) (hk : k < 64) : ∀ i, i < 10 → w.cell? ⟨gb, 1 + k * 10 + i, none⟩ = some (pageCell P k i) := fun i hi => by
  have := hg (1 + k * 10 + i) (picCell P (1 + k * 10 + i)) (by rw [Array.getElem?_toList, picV_get P _ (by omega)])
  rw [Nat.zero_add] at this
  rw [this, picCell, if_neg (by omega), show (1 + k * 10 + i - 1) / 10 = k by omega, show (1 + k * 10 + i - 1) % 10 = i by omega]

/-- The three lists of bits, one behind the other. -/
theorem bys_head {P : Pic} (hG : P.Good) : Bys (headL P) := by
  have hb : ∀ (f : Nat → Bool) (n : Nat), Bys (bitsTo f n) := fun f n => by
    induction n with
    | zero => intro x hx; cases hx
    | succ n ih => exact bys_app ih (fun x hx => by rw [List.mem_singleton] at hx; rw [hx]; exact byteOf_lt f n)
  refine bys_app (bys_app (bys_app (fun x hx => ?_) (hb _ _)) (hb _ _)) (hb _ _)
  have h0 := hG.r0
  have h1 := hG.r1
  simp only [List.mem_cons, List.not_mem_nil, or_false, rootB] at hx
  rcases hx with rfl | rfl | rfl | rfl
  · omega
  · omega
  · omega
  · split <;> omega
theorem bys_page {P : Pic} (hG : P.Good) {p : Nat} (hp : p < 64) : ∀ k, k ≤ 8 → Bys (pageB P p k)
  | 0, _ => fun x hx => by cases hx
  | k + 1, hk => bys_app (bys_page hG hp k (by omega)) (bys_two (hG.w p k hp (by omega)).2)
theorem bys_words {P : Pic} (hG : P.Good) : ∀ n, n ≤ 64 → Bys (wordsTo P n)
  | 0, _ => fun x hx => by cases hx
  | n + 1, hn => by
    refine bys_app (bys_words hG n (by omega)) ?_
    split
    · exact bys_page hG (by omega) 8 (by omega)
    · intro x hx; cases hx
theorem bys_ahead {P : Pic} (hG : P.Good) : Bys (aheadL P) := bys_app (bys_head hG) (bys_words hG 64 (by omega))
theorem bys_enc {P : Pic} (hG : P.Good) : Bys (encL P) := bys_app (bys_ahead hG) (checkL_lt _)

theorem cells_at2 {w : World} {cs : Array Value} {t : TypeId} {n : Nat} (hn : w.heap.size = n) : ∀ j u, cs.toList[j]? = some u → (w.alloc (.cells cs t)).cell? ((⟨n, 0, none⟩ : Addr).add j) = some u := by
  subst hn
  exact byte_cells
theorem owns_base {w : World} {b b' : Nat} {e : TypeId} {s : Nat} {v : Value} {n : Nat} {xs : List Value} (h : b' ≤ b) (ho : w.ownsRow b e s v n xs) : w.ownsRow b' e s v n xs := by
  refine ⟨ho.1, ?_⟩
  rcases ho.2 with q | ⟨g, cap, cur, hv, q1, q2⟩
  · exact Or.inl q
  · exact Or.inr ⟨g, cap, cur, hv, Nat.le_trans h q1, q2⟩

set_option maxRecDepth 100000 in
set_option maxHeartbeats 4000000 in
theorem write_any (w : World) (P : Pic) (hG : P.Good) :
    Calls Tryz.prog 72 #[.agg (picV P)] w fun e w' => e = .returned (.string (toS (encL P))) ∧ Only Nob w w' := by
  obtain ⟨i0, hi, hzz⟩ := Option.map_eq_some_iff.1 u8_info
  simp only [Prod.mk.injEq] at hzz
  obtain ⟨hz0, hz1, hz2⟩ := hzz
  have HI := hid (And.intro hi (And.intro hz0 (And.intro hz1 hz2)))
  clear hi hz0 hz1 hz2
  have hr := rowIs_pic (picRow w P 91)
  have hc0 : (w.alloc (.cells (picV P) 91)).cell? ⟨w.heap.size, 0, none⟩ = some (.int .i64 P.root) := range_root hr
  have HR := hid hr
  have HG := hid hG
  have kc : (convert 143 143 (.slice (some ⟨w.heap.size + 1, 0, none⟩) 2 2)).run Tryz.prog ((w.alloc (.cells (picV P) 91)).alloc (.cells #[.int .u8 67, .int .u8 86] 5)) = .ok (.slice (some ⟨w.heap.size + 1, 0, none⟩) 2 2) ((w.alloc (.cells (picV P) 91)).alloc (.cells #[.int .u8 67, .int .u8 86] 5 (2, 3))) := by
    have := Lib.run_convert_bytes_const (P := Tryz.prog) (w.alloc (.cells (picV P) 91)) 143 5 #[.int .u8 67, .int .u8 86] 2 2 Tryz.underlying143 Tryz.underlying5
    rw [World.size_alloc] at this
    exact this
  have hc1 : ∀ o, ((w.alloc (.cells (picV P) 91)).alloc o).cell? ⟨w.heap.size, 0, none⟩ = some (.int .i64 P.root) := fun o => ((Only.refl Nob _).alloc o).keep (fun q => q) hc0
  have HC2 : Hid (∀ j u, [Value.int .u8 67, .int .u8 86][j]? = some u → (((w.alloc (.cells (picV P) 91)).alloc (.cells #[.int .u8 67, .int .u8 86] 5 (2, 3))).alloc (.cells #[.int .u8 3, .int .u8 (rootB P.root : Nat)] 5)).cell? ((⟨w.heap.size + 1, 0, none⟩ : Addr).add j) = some u) := fun j u hu => by
    refine ((Only.refl Nob _).alloc _).keep (fun q => q) ?_
    rw [add_at]
    have := World.cell?_alloc_mark (w.alloc (.cells (picV P) 91)) #[.int .u8 67, .int .u8 86] 5 (2, 3) j
    rw [World.size_alloc] at this
    rw [this]
    simpa using hu
  have HN : Hid (∀ j u, [Value.int .u8 3, .int .u8 (rootB P.root : Nat)][j]? = some u → (((w.alloc (.cells (picV P) 91)).alloc (.cells #[.int .u8 67, .int .u8 86] 5 (2, 3))).alloc (.cells #[.int .u8 3, .int .u8 (rootB P.root : Nat)] 5)).cell? ((⟨w.heap.size + 2, 0, none⟩ : Addr).add j) = some u) := fun j u hu => by
    have e : w.heap.size + 2 = ((w.alloc (.cells (picV P) 91)).alloc (.cells #[.int .u8 67, .int .u8 86] 5 (2, 3))).heap.size := by simp
    rw [e]
    exact byte_cells (cs := #[.int .u8 3, .int .u8 (rootB P.root : Nat)]) j u hu
  have H1 : Hid (∀ u ∈ [Value.int .u8 3, .int .u8 (rootB P.root : Nat)], u.oneCell' = true) := fun u hu => by simp at hu; rcases hu with rfl | rfl <;> rfl
  have HM : Hid (2 + 2 ≤ maxLen) := by unfold Hid maxLen; omega
  have HH : Hid (∀ b, some (⟨w.heap.size + 1, 0, none⟩ : Addr) = some b → ∀ j u, [Value.int .u8 67, .int .u8 86][j]? = some u → (((w.alloc (.cells (picV P) 91)).alloc (.cells #[.int .u8 67, .int .u8 86] 5 (2, 3))).alloc (.cells #[.int .u8 3, .int .u8 (rootB P.root : Nat)] 5)).cell? (b.add j) = some u) := fun b hb => by
    have hb' : b = ⟨w.heap.size + 1, 0, none⟩ := (Option.some.inj hb).symm
    rw [hb']
    exact HC2.out
  clear hr hG
  go_enter Tryz.func72, Tryz.ntmps72
  go_wp2_with fail
  refine (rootByte_any _ P.root HG.out.r0 HG.out.r1).mono ?_
  rintro e w1 ⟨rfl, rfl⟩
  go_wp2_with (at_builtin; refine wpList_append_grows _ rfl _ _ 143 rfl 5 i0 (.int .u8 0) 1 1 Tryz.underlying143 HI.out.1 HI.out.2.1 HI.out.2.2.1 HI.out.2.2.2 rfl (by decide) (some ⟨w.heap.size + 1, 0, none⟩) 2 2 [.int .u8 67, .int .u8 86] rfl (fun q => by cases q) rfl HH.out ⟨w.heap.size + 2, 0, none⟩ 2 2 [.int .u8 3, .int .u8 (rootB P.root : Nat)] rfl rfl HN.out H1.out (by omega) HM.out (by omega) ?_; intro v' w1 hown hgrow; obtain ⟨sb2, cp2, rfl⟩ := ownsB_pos hown)
  have hO0 : Only Nob w w1 := ((((Only.refl Nob w).alloc _).alloc _).alloc _).trans ⟨hgrow.os, hgrow.tape, hgrow.output, hgrow.size, fun k hk _ => hgrow.block k hk (by simp)⟩
  have hb1 : Buf (w.heap.size + 1) w1 (.slice (some ⟨sb2, 0, none⟩) 4 cp2) [67, 86, 3, rootB P.root] := ⟨owns_base (by simp) hown, by simp⟩
  have hr1 : w1.rangeAt w.heap.size 0 (picV P).toList := by
    refine Only.range (S := Nob) ?_ HR.out (fun q => q)
    exact (((Only.refl Nob (w.alloc (.cells (picV P) 91))).alloc _).alloc _).trans ⟨hgrow.os, hgrow.tape, hgrow.output, hgrow.size, fun k hk _ => hgrow.block k hk (by simp)⟩
  have hs1 : w.heap.size + 1 ≤ w1.heap.size := by
    have := hgrow.size
    simp at this
    omega
  clear hown hgrow HN HH HC2 H1 HM kc hc0 hc1 HI
  refine (appendPr_any P _ (w.heap.size + 1) _ _ w.heap.size hr1 (by omega) hb1 hs1 (by simp)).mono ?_
  rintro e w2 ⟨v2, rfl, hb2, ho2⟩
  have hr2 : w2.rangeAt w.heap.size 0 (picV P).toList := ho2.range hr1 (fun q => by simp only [Ge] at q; omega)
  have hs2 := ho2.size
  have hO2 : Only (Ge (w.heap.size + 1)) w w2 := hO0.of_nob.trans ho2
  clear hr1 hb1 ho2 hO0
  go_wp2_with fail
  refine (appendWr_any P _ (w.heap.size + 1) _ _ w.heap.size hr2 (by omega) hb2 (by omega) (by simp [bitsTo_len])).mono ?_
  rintro e w3 ⟨v3, rfl, hb3, ho3⟩
  have hr3 : w3.rangeAt w.heap.size 0 (picV P).toList := ho3.range hr2 (fun q => by simp only [Ge] at q; omega)
  have hs3 := ho3.size
  have hO3 : Only (Ge (w.heap.size + 1)) w w3 := hO2.trans ho3
  clear hr2 hb2 ho3 hO2
  go_wp2_with fail
  refine (appendFl_any P _ (w.heap.size + 1) _ _ w.heap.size hr3 (by omega) hb3 (by omega) (by simp [bitsTo_len])).mono ?_
  rintro e w4 ⟨v4, rfl, hb4, ho4⟩
  have hr4 : w4.rangeAt w.heap.size 0 (picV P).toList := ho4.range hr3 (fun q => by simp only [Ge] at q; omega)
  have hs4 := ho4.size
  have hO4 : Only (Ge (w.heap.size + 1)) w w4 := hO3.trans ho4
  clear hr3 hb3 ho4 hO3
  have HB4 : Hid (Buf (w.heap.size + 1) w4 v4 (headL P)) := hb4
  clear hb4
  have hs : w.heap.size + 1 ≤ w4.heap.size := by omega
  clear hs1 hs2 hs3 hs4
  have HO4 := hid hO4
  have HR4 := hid hr4
  clear hO4 hr4 HR
  go_wp2_with fail
  refine wp_load_mid 89 (.tmp 23) rfl w.heap.size 1 rfl (pagesV P).toList _ (range_pages HR4.out) Tryz.underlying89 rfl (info102s P) ?_
  have hx := run_page P
  have hz : ∀ w, (zeroValue 88).run Tryz.prog w = .ok (.agg #[.bool false, .bool false, .int .u16 0, .int .u16 0, .int .u16 0, .int .u16 0, .int .u16 0, .int .u16 0, .int .u16 0, .int .u16 0]) w := fun _ => by kernel_rfl
  have hst : ∀ (k : Nat) (w : World), (storeCells ⟨w.heap.size, 0, none⟩ (pageV P k).toList 0).run Tryz.prog (w.alloc (.cells #[.bool false, .bool false, .int .u16 0, .int .u16 0, .int .u16 0, .int .u16 0, .int .u16 0, .int .u16 0, .int .u16 0, .int .u16 0] 88)) = .ok () (w.alloc (.cells #[.bool (P.pr k), .bool (P.wr k), .int .u16 (P.wd k 0), .int .u16 (P.wd k 1), .int .u16 (P.wd k 2), .int .u16 (P.wd k 3), .int .u16 (P.wd k 4), .int .u16 (P.wd k 5), .int .u16 (P.wd k 6), .int .u16 (P.wd k 7)] 88)) := fun k w => run_storeCells_new w 88 _ _ (by rw [info101]; rfl) rfl (pageV_one P k)
  go_wp2_with fail
  go_loopw [3, 25] (fun s c wr => ∃ k : Nat, k ≤ 64 ∧ c = .int .i64 k ∧ Buf (w.heap.size + 1) wr s (headL P ++ wordsTo P k) ∧ Only (Ge (w.heap.size + 1)) w4 wr) (fun _ c _ => 64 - (intOf c).toNat)
  case atStart => exact ⟨0, by omega, rfl, by rw [wordsTo, List.append_nil]; exact HB4.out, Only.refl _ _⟩
  case round =>
    obtain ⟨k, hk, rfl, hb, hO⟩ := hrel
    clear HB4 HR4
    have hsw := hO.size
    have HB := hid hb
    have HO := hid hO
    obtain ⟨sa, n, sc, rfl⟩ : ∃ a n c, u3 = Value.slice a n c := by
      obtain ⟨sa, sc, e⟩ := hb.shape
      exact ⟨sa, _, sc, e⟩
    clear hb hO
    have hlen : (headL P ++ wordsTo P k).length = 28 + 16 * cntF P.fil k := by simp [headL_len, wordsTo_len]
    have hcl := cntF_le P.fil k
    by_cases hlt : k < 64
    · have hxk := hx k hlt
      have hstk := hst k
      have hwk : ∀ j, j < 8 → 0 ≤ P.wd k j ∧ P.wd k j ≤ 65535 := fun j hj => HG.out.w k j hlt hj
      clear hx hst
      go_wp2_with fail
      refine (isFilled_any _ P k).mono ?_
      rintro e w5 ⟨rfl, ho5⟩
      have hq := fun i => ho5.laid (c := pageV P k) (fun q => q) i
      have q2 : w5.cell? ⟨wr.heap.size, 2, none⟩ = some (.int .u16 (P.wd k 0)) := hq 2
      have q3 : w5.cell? ⟨wr.heap.size, 3, none⟩ = some (.int .u16 (P.wd k 1)) := hq 3
      have q4 : w5.cell? ⟨wr.heap.size, 4, none⟩ = some (.int .u16 (P.wd k 2)) := hq 4
      have q5 : w5.cell? ⟨wr.heap.size, 5, none⟩ = some (.int .u16 (P.wd k 3)) := hq 5
      have q6 : w5.cell? ⟨wr.heap.size, 6, none⟩ = some (.int .u16 (P.wd k 4)) := hq 6
      have q7 : w5.cell? ⟨wr.heap.size, 7, none⟩ = some (.int .u16 (P.wd k 5)) := hq 7
      have q8 : w5.cell? ⟨wr.heap.size, 8, none⟩ = some (.int .u16 (P.wd k 6)) := hq 8
      have q9 : w5.cell? ⟨wr.heap.size, 9, none⟩ = some (.int .u16 (P.wd k 7)) := hq 9
      have hO5 : Only Nob wr w5 := ((Only.refl Nob wr).alloc _).trans ho5
      have hs5 := hO5.size
      clear hq ho5
      cases hf : P.fil k with
      | false =>
        have HW : Hid (wordsTo P (k + 1) = wordsTo P k) := by rw [Hid, wordsTo, hf]; simp
        go_wp2_with fail
        go_roundw
        case rel => exact ⟨k + 1, by omega, by go_num, by rw [HW.out]; exact HB.out.nob hO5, HO.out.trans hO5.of_nob⟩
        case measure => simp [intOf]; omega
      | true =>
        have HW : Hid (headL P ++ wordsTo P (k + 1) = (headL P ++ wordsTo P k) ++ pageB P k 8) := by rw [Hid, wordsTo, hf, if_pos rfl, List.append_assoc]
        go_wp2_with fail
        refine (appendWords_any _ (w.heap.size + 1) _ (headL P ++ wordsTo P k) P k (HB.out.nob hO5) (by omega) hwk (by omega)).mono ?_
        rintro e w6 ⟨v6, rfl, hb6, ho6⟩
        go_wp2_with fail
        go_roundw
        case rel => exact ⟨k + 1, by omega, by go_num, by rw [HW.out]; exact hb6, (HO.out.trans hO5.of_nob).trans ho6⟩
        case measure => simp [intOf]; omega
    · have e64 : k = 64 := by omega
      subst e64
      have HBA : Hid (Bys (aheadL P)) := bys_ahead HG.out
      have hstr : (convert 143 9 (.slice sa n sc)).run Tryz.prog wr = .ok (.string (toS (aheadL P))) wr := HB.out.string HBA.out
      have HSZ : Hid ((toS (aheadL P)).size = 28 + 16 * cntF P.fil 64) := by rw [Hid, toS_size, aheadL_len]
      have HSC : Hid ((toS (checkL (nats (toS (aheadL P))))).size = 4) := by rw [Hid, toS_size]; rfl
      have hadd := run_string_add_sum (P := Tryz.prog) (a := toS (aheadL P)) (b := toS (checkL (nats (toS (aheadL P))))) (h := by rw [HSZ.out, HSC.out]; omega)
      have HE : Hid (toS (aheadL P) ++ toS (checkL (nats (toS (aheadL P)))) = toS (encL P)) := by rw [Hid, nats_toS HBA.out, toS_append]; rfl
      go_wp2_with fail
      refine (adler_any _ (toS (aheadL P)) (by rw [HSZ.out]; unfold maxLen; omega)).mono ?_
      rintro e w6 ⟨rfl, ho6⟩
      go_wp2
      go_ret
      exact ⟨by rw [HE.out]; rfl, ((HO4.out.trans HO.out).trans ho6.of_nob).of_ge (by omega)⟩
end Go.Proofs.YtfcepnhknmbaaaaGreat
