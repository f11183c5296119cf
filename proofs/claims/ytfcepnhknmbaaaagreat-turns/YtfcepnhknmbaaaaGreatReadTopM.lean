/- What bytes tell, form by form: the plain mathematics of Read; and Read where the mark is missing. -/
import Derived.Test.YtfcepnhknmbaaaaGreatReadMapped
import Derived.Test.YtfcepnhknmbaaaaGreatReadM
import Derived.Test.YtfcepnhknmbaaaaGreatGuestM
import Derived.Laws.ResultCell
import Derived.Deep.RegionHeld3
import Derived.Test.YtfcepnhknmbaaaaGreatSealM
namespace Go.Proofs.YtfcepnhknmbaaaaGreat
open Go.RowKit Go.Deep

def isNot (s : ByteArray) : Prop := ¬ Valid (nats s)
theorem notCV {s : ByteArray} (h : isCV s = false) : ¬ Valid (nats s) := by
  rw [isCV, beq_eq_false_iff_ne] at h
  have key : bt (nats s) 0 = 67 → bt (nats s) 1 = 86 → False := fun h0 h1 => by
    apply h
    have l1 : 1 < (nats s).length := by
      rcases Nat.lt_or_ge 1 (nats s).length with q | q
      · exact q
      · rw [bt_ge q] at h1; omega
    have t0 := take_snoc (l := nats s) (n := 0) (by omega)
    have t1 := take_snoc (l := nats s) (n := 1) l1
    rw [t1, t0, h0, h1]
    rfl
  rintro (q | q | q)
  · exact key q.c q.v
  · exact key q.c q.v
  · exact key q.c q.v

set_option maxRecDepth 100000 in
set_option maxHeartbeats 1000000 in
theorem readNot_any (w : World) (s : ByteArray) (hs : s.size ≤ maxLen) (hc : isCV s = false) :
    Calls Tryz.prog 75 #[.string s] w fun e w' => e = .returned (.tuple #[.agg (picV (zeroPic 0)), .bool false]) ∧ Only Nob w w' := by
  have hr := run_reader
  have hrow := picRow w (zeroPic 0) 91
  obtain ⟨w2, hst, hrow2, hon2⟩ := store_pic ((hrow.alloc (.cells #[.string s, .bool false, .nilFunc, .nilFunc, .nilFunc, .nilFunc, .nilFunc] 158))) (zeroPic 0)
  have HL := hid (load_pic hrow2)
  have HO := hid hon2
  have HC := hid hc
  rw [← zc104] at hst
  have hsz := zc104_size
  clear hc hrow hrow2 hon2
  go_enter Tryz.func75, Tryz.ntmps75
  go_wp2_with fail
  refine (cutPrefix_top _ s hs).mono ?_
  rintro e w1 ⟨rfl, rfl⟩
  rw [HC.out]
  go_wp2_with fail
  refine bodyPost_ret (v := .tuple #[.agg (picV (zeroPic 0)), .bool false]) ?_ rfl ⟨rfl, ?_⟩
  · rw [results_cell_tmp Tryz.results75]
    simp [asAddr, HL.out]
  · exact (((Only.refl Nob w).alloc _).alloc _).after HO.out (fun b hb q => by simp only [One] at q; omega)

theorem rd_start (w : World) (s : ByteArray) (h : 2 ≤ s.size) : Rd (w.alloc (.cells #[.string (s.extract 2 s.size), .bool false, .nilFunc, .nilFunc, .nilFunc, .nilFunc, .nilFunc] 158)) w.heap.size s 2 false (fun _ => .nilFunc) := by
  refine ⟨⟨158, World.rowIs_alloc w _ 158 _ (fun i hi => ?_)⟩, h⟩
  have hi : i < 7 := hi
  have e : i = 0 ∨ i = 1 ∨ i = 2 ∨ i = 3 ∨ i = 4 ∨ i = 5 ∨ i = 6 := by omega
  rcases e with e | e | e | e | e | e | e <;> subst e <;> rfl

set_option maxRecDepth 100000 in
set_option maxHeartbeats 400000 in
theorem rtake2_any {w : World} {rb : Nat} {s : ByteArray} {k : Nat} {x : Bool} {F : Nat → Value} (h : Rd w rb s k x F) (_hs : s.size ≤ maxLen) :
    Calls Tryz.prog 106 #[pt rb] w fun e w' => ∃ k' x' b, e = .returned (.int .u8 b) ∧ Rd w' rb s k' x' F ∧ Only (One rb) w w' ∧ Got s.size k x k' x' 1 ∧ 0 ≤ b ∧ b ≤ 255 ∧ (x' = false → b = (bt (nats s) k : Nat)) ∧ (x' = x ∨ b = 0) := by
  have hc0 := h.c0
  have hf := h.fz 0
  have hle := h.le
  have hem : (s.extract k s.size).toList.isEmpty = decide (¬ k < s.size) := by
    have hsz := ext_size s k
    have hl : (s.extract k s.size).toList.length = s.size - k := by
      rw [ByteArray.toList_eq, Array.length_toList]; exact hsz
    rw [Bool.eq_iff_iff, List.isEmpty_iff_length_eq_zero, hl, decide_eq_true_iff]
    omega
  by_cases hk : k < s.size
  · have hsz := ext_size s k
    have HN := hid (ext_next s k)
    have HB : Hid (∀ h0 : 0 < (s.extract k s.size).size, ((s.extract k s.size)[0].toNat : Int) = (bt (nats s) k : Nat)) := fun h0 => by
      rw [nats_bt h0, nats_extract]
      congr 1
      rw [bt_take (by omega), bt_drop]
      rfl
    have HR : Hid (∀ w' : World, Rd w' rb s k (x || !true) F → Rd (w'.setCell ⟨rb, 0, none⟩ (.string ((s.extract k s.size).extract 1 (s.extract k s.size).size))) rb s (k + 1) x F) := fun w' h' => by
      rw [ext_next]
      simpa using h'.setK (k' := k + 1) (by omega)
    have HC : Hid (∀ w' : World, Rd w' rb s k (x || !true) F → w'.cell? ⟨rb, 0, none⟩ = some (.string (s.extract k s.size)) ∧ w'.frozen? ⟨rb, 0, none⟩ = false) := fun w' h' => ⟨h'.c0, h'.fz 0⟩
    have H := hid h
    clear h
    rw [decide_eq_false (by omega)] at hem
    generalize s.extract k s.size = r at *
    have hr0 : 0 < r.size := by omega
    have hb0 := UInt8.toNat_lt (r[0]'hr0)
    go_enter Tryz.func106, Tryz.ntmps106
    go_wp2_with fail
    refine (require_any H.out true).mono ?_
    rintro e w1 ⟨rfl, h1, ho1⟩
    obtain ⟨d0, d1⟩ := HC.out w1 h1
    clear hc0 hf
    go_wp2
    go_ret
    refine ⟨k + 1, x, _, rfl, by rw [← hsz]; exact HR.out w1 h1, ho1.setOne _ _, ⟨⟨fun q => ⟨q, by omega⟩, fun q => q.1⟩, fun _ => rfl⟩, by omega, by omega, fun _ => HB.out hr0, Or.inl rfl⟩
  · have hk2 : k = s.size := by omega
    have HC : Hid (∀ w' : World, Rd w' rb s k (x || !false) F → w'.cell? ⟨rb, 0, none⟩ = some (.string (s.extract k s.size))) := fun w' h' => h'.c0
    have H := hid h
    clear h
    rw [decide_eq_true (by omega)] at hem
    generalize s.extract k s.size = r at *
    go_enter Tryz.func106, Tryz.ntmps106
    go_wp2_with fail
    refine (require_any H.out false).mono ?_
    rintro e w1 ⟨rfl, h1, ho1⟩
    have d0 := HC.out w1 h1
    clear hc0 hf
    go_wp2
    go_ret
    refine ⟨k, true, 0, rfl, by simpa using h1, ho1, ⟨⟨fun q => (by cases q), fun q => by omega⟩, fun q => (by cases q)⟩, by omega, by omega, fun q => (by cases q), Or.inr rfl⟩


theorem valid_size {l : List Nat} (h : Valid l) : 4 ≤ l.length := by
  rcases h with h | h | h
  · have := h.le
    simp only [lAt] at this
    omega
  · have := h.le
    simp only [lAt] at this
    omega
  · have := h.le
    simp only [end3] at this
    omega
theorem valid_form {l : List Nat} (h : Valid l) : bt l 2 = 1 ∨ bt l 2 = 2 ∨ bt l 2 = 3 := by
  rcases h with h | h | h
  · exact Or.inl h.f
  · exact Or.inr (Or.inl h.f)
  · exact Or.inr (Or.inr h.f)

theorem ext_size0 (s : ByteArray) (k : Nat) (h : k ≤ s.size) : (s.extract 0 k).size = k := by
  have := nats_len (s.extract 0 k)
  rw [nats_extract, List.drop_zero, Nat.sub_zero, List.length_take, nats_len] at this
  omega
theorem ext_drop (s : ByteArray) (k : Nat) : nats (s.extract k s.size) = (nats s).drop k := by
  rw [nats_extract, List.take_of_length_le (by rw [List.length_drop, nats_len]; omega)]
theorem ext_take (s : ByteArray) (k : Nat) : nats (s.extract 0 k) = (nats s).take k := by
  rw [nats_extract, List.drop_zero, Nat.sub_zero]
theorem cv_bt {s : ByteArray} (h : isCV s = true) : bt (nats s) 0 = 67 ∧ bt (nats s) 1 = 86 := by
  rw [isCV, beq_iff_eq] at h
  have e0 := bt_take (l := nats s) (i := 0) (n := 2) (by omega)
  have e1 := bt_take (l := nats s) (i := 1) (n := 2) (by omega)
  rw [h] at e0 e1
  exact ⟨e0.symm, e1.symm⟩
theorem bool_lists (a b : ByteArray) : (a.toList == b.toList) = decide (nats a = nats b) := by
  rw [Bool.eq_iff_iff, beq_iff_eq, decide_eq_true_iff]
  constructor
  · intro q
    rw [ByteArray.toList_eq, ByteArray.toList_eq] at q
    simp only [nats, q]
  · intro q
    rw [nats_inj q]
theorem form_of_valid1 {l : List Nat} (h : bt l 2 = 1) (hv : Valid l) : Form1 l := by
  rcases hv with q | q | q
  · exact q
  · have := q.f; omega
  · have := q.f; omega
theorem form_of_valid2 {l : List Nat} (h : bt l 2 = 2) (hv : Valid l) : Form2 l := by
  rcases hv with q | q | q
  · have := q.f; omega
  · exact q
  · have := q.f; omega
theorem form_of_valid3 {l : List Nat} (h : bt l 2 = 3) (hv : Valid l) : Form3 l := by
  rcases hv with q | q | q
  · have := q.f; omega
  · have := q.f; omega
  · exact q
theorem valid1 {s : ByteArray} (hcv : isCV s = true) (hf : bt (nats s) 2 = 1) {x' : Bool} {k' : Nat} (hi : x' = false ↔ (3 + 1 ≤ s.size ∧ lOk (nats s) false 3 (bt (nats s) 3) ∧ lAt false 3 (bt (nats s) 3) ≤ s.size)) (hp : x' = false → k' = lAt false 3 (bt (nats s) 3)) :
    (x' = false ∧ nats (s.extract k' s.size) = seal1 (nats (s.extract 0 k'))) ↔ Valid (nats s) := by
  rw [ext_drop, ext_take]
  constructor
  · rintro ⟨q, e⟩
    obtain ⟨i1, i2, i3⟩ := hi.1 q
    rw [hp q] at e
    exact Or.inl ⟨(cv_bt hcv).1, (cv_bt hcv).2, hf, i2, by rw [nats_len]; exact i3, e⟩
  · intro hv
    have h := form_of_valid1 hf hv
    have h4 := valid_size hv
    have hle := h.le
    rw [nats_len] at h4 hle
    have q := hi.2 ⟨by omega, h.ok, hle⟩
    exact ⟨q, by rw [hp q]; exact h.sl⟩
theorem valid2 {s : ByteArray} (hcv : isCV s = true) (hf : bt (nats s) 2 = 2) {x' : Bool} {k' : Nat} (hi : x' = false ↔ (4 ≤ s.size ∧ rootOk (nats s) ∧ 4 + 1 ≤ s.size ∧ lOk (nats s) true 4 (bt (nats s) 4) ∧ lAt true 4 (bt (nats s) 4) ≤ s.size)) (hp : x' = false → k' = lAt true 4 (bt (nats s) 4)) :
    (x' = false ∧ nats (s.extract k' s.size) = seal2 (nats (s.extract 0 k'))) ↔ Valid (nats s) := by
  rw [ext_drop, ext_take]
  constructor
  · rintro ⟨q, e⟩
    obtain ⟨i0, i1, i4, i2, i3⟩ := hi.1 q
    rw [hp q] at e
    exact Or.inr (Or.inl ⟨(cv_bt hcv).1, (cv_bt hcv).2, hf, i1, i2, by rw [nats_len]; exact i3, e⟩)
  · intro hv
    have h := form_of_valid2 hf hv
    have h4 := valid_size hv
    have hle := h.le
    rw [nats_len] at h4 hle
    have h5 : 4 + 1 ≤ s.size := by
      have : 4 + 1 ≤ lAt true 4 (bt (nats s) 4) := by simp only [lAt]; omega
      omega
    have q := hi.2 ⟨by omega, h.root, h5, h.ok, hle⟩
    exact ⟨q, by rw [hp q]; exact h.sl⟩

theorem valid3 {s : ByteArray} {w wr : World} {rb gb : Nat} {F : Nat → Value} {r : Int} (hcv : isCV s = true) (hf : bt (nats s) 2 = 3) {X Y Z k1 k3 k' : Nat} {x1 x3 x4 x' : Bool} {P : Pic}
    (i1 : x1 = false ↔ (4 ≤ s.size ∧ rootOk (nats s))) (p1 : x1 = false → k1 = 4 ∧ r = rootOf (nats s)) (hG : Got s.size k1 x1 k3 x3 24) (i4 : x4 = false ↔ x3 = false ∧ ∀ p, p < 64 → bit Y p = true ∨ bit Z p = true → bit X p = true)
    (hN : x3 = false → X = numTo (nats s) k1 8 ∧ Y = numTo (nats s) (k1 + 8) 8 ∧ Z = numTo (nats s) (k1 + 16) 8) (hM : MRel w wr rb gb s F r X Y Z k3 x4 64 k' x' P) :
    ((x' = false ∧ nats (s.extract k' s.size) = checkL (nats (s.extract 0 k'))) ↔ Valid (nats s)) ∧ (x' = false → P.Same (picOf (nats s))) := by
  have hby := nats_bys s
  have key : x3 = false → x1 = false ∧ k1 = 4 ∧ k3 = 28 ∧ r = rootOf (nats s) ∧ (∀ p, p < 64 → bit X p = prB (nats s) p) ∧ (∀ p, p < 64 → bit Y p = wrB (nats s) p) ∧ (∀ p, p < 64 → bit Z p = flB (nats s) p) := fun q => by
    have q1 := hG.left q
    obtain ⟨e1, e2⟩ := p1 q1
    obtain ⟨n1, n2, n3⟩ := hN q
    rw [e1] at n1 n2 n3
    have e3 := hG.pos q
    refine ⟨q1, e1, by omega, e2, fun p hp => ?_, fun p hp => ?_, fun p hp => ?_⟩
    · rw [n1, numTo_bit hby 4 8 p (by omega)]; rfl
    · rw [n2, numTo_bit hby 12 8 p (by omega)]; rfl
    · rw [n3, numTo_bit hby 20 8 p (by omega)]; rfl
  have cnt : (∀ p, p < 64 → bit Z p = flB (nats s) p) → ∀ p, p ≤ 64 → cntF (bit Z) p = cntF (flB (nats s)) p := fun hz p hp => cntF_congr p (fun i hi => hz i (by omega))
  have hpic : picOf (nats s) = mapPic (nats s) := by rw [picOf, if_neg (by omega), if_neg (by omega)]
  have same : x' = false → P.Same (mapPic (nats s)) := fun q => by
    obtain ⟨q4, _, _⟩ := hM.iff.1 q
    obtain ⟨q3, _⟩ := i4.1 q4
    obtain ⟨_, _, e3, er, ex, ey, ez⟩ := key q3
    refine ⟨by rw [hM.root, er]; rfl, fun p hp => ?_, fun p hp => ?_, fun p k hp hk => ?_⟩
    · rw [hM.pr p, if_pos hp, ex p hp]; rfl
    · rw [hM.wr p, if_pos hp, ey p hp]; rfl
    · rw [(hM.pos q).2 p k hp hk, ez p hp, cnt ez p (by omega), e3]; rfl
  refine ⟨?_, fun q => by rw [hpic]; exact same q⟩
  rw [ext_drop, ext_take]
  constructor
  · rintro ⟨q, e⟩
    obtain ⟨q4, c2, c3⟩ := hM.iff.1 q
    obtain ⟨q3, c4⟩ := i4.1 q4
    obtain ⟨q1, _, e3, er, ex, ey, ez⟩ := key q3
    have ek : k' = end3 (nats s) := by rw [(hM.pos q).1, cnt ez 64 (by omega), e3]; rfl
    rw [ek] at e
    refine Or.inr (Or.inr ⟨(cv_bt hcv).1, (cv_bt hcv).2, hf, (i1.1 q1).2, fun p hp hw => ?_, fun p hp hw => ?_, fun p hp hw => ?_, ?_, e⟩)
    · rw [← ex p hp]; exact c4 p hp (Or.inl (by rw [ey p hp]; exact hw))
    · rw [← ex p hp]; exact c4 p hp (Or.inr (by rw [ez p hp]; exact hw))
    · obtain ⟨k, hk, hne⟩ := c3 p hp (by rw [ez p hp]; exact hw)
      rw [cnt ez p (by omega), e3] at hne
      simp only [Pic.fil, List.any_eq_true, List.mem_range, bne_iff_ne]
      refine ⟨k, hk, ?_⟩
      show (if flB (nats s) p then wordAt false (nats s) (28 + 16 * cntF (flB (nats s)) p) k else 0) ≠ 0
      rw [if_pos hw]
      exact hne
    · rw [nats_len, end3, ← cnt ez 64 (by omega)]; omega
  · intro hv
    have h := form_of_valid3 hf hv
    have hle := h.le
    rw [nats_len, end3] at hle
    have q1 := i1.2 ⟨by omega, h.root⟩
    have q3 : x3 = false := hG.iff.2 ⟨q1, by have := (p1 q1).1; omega⟩
    obtain ⟨_, _, e3, er, ex, ey, ez⟩ := key q3
    have q4 : x4 = false := i4.2 ⟨q3, fun p hp q => by
      rw [ex p hp]
      rcases q with q | q
      · rw [ey p hp] at q; exact h.wr p hp q
      · rw [ez p hp] at q; exact h.fl p hp q⟩
    have q : x' = false := hM.iff.2 ⟨q4, by rw [cnt ez 64 (by omega)]; omega, fun p hp hb => by
      rw [ez p hp] at hb
      have hn := h.nz p hp hb
      simp only [Pic.fil, List.any_eq_true, List.mem_range, bne_iff_ne] at hn
      obtain ⟨k, hk, hne⟩ := hn
      have hne : (if flB (nats s) p then wordAt false (nats s) (28 + 16 * cntF (flB (nats s)) p) k else 0) ≠ 0 := hne
      rw [if_pos hb] at hne
      exact ⟨k, hk, by rw [cnt ez p (by omega), e3]; exact hne⟩⟩
    have ek : k' = end3 (nats s) := by rw [(hM.pos q).1, cnt ez 64 (by omega), e3]; rfl
    exact ⟨q, by rw [ek]; exact h.sl⟩

/-- What Read answers. -/
def RdPost (s : ByteArray) (w : World) (e : Ending) (w' : World) : Prop :=
  ∃ (P : Pic) (ok : Bool), e = .returned (.tuple #[.agg (picV P), .bool ok]) ∧ Only Nob w w' ∧ (ok = true ↔ Valid (nats s)) ∧ (ok = true → P.Same (picOf (nats s))) ∧ (ok = false → P = zeroPic 0)

end Go.Proofs.YtfcepnhknmbaaaaGreat

/- The contract of saved's Read: the guest of bytes. -/
namespace Go.Proofs.YtfcepnhknmbaaaaGreat
open Go.RowKit Go.Deep

set_option maxRecDepth 100000 in
set_option maxHeartbeats 4000000 in
theorem readIs_any (w : World) (s : ByteArray) (hs : s.size ≤ maxLen) (hc : isCV s = true) : Calls Tryz.prog 75 #[.string s] w (RdPost s w) := by
  have hr := run_reader
  have hrow := picRow w (zeroPic 0) 91
  rw [← zc104] at hrow
  have HZ : Hid (∀ w' : World, Only (fun b => w.heap.size < b) ((w.alloc (.cells Tryz.zeroCells91 91)).alloc (.cells #[.string (s.extract 2 s.size), .bool false, .nilFunc, .nilFunc, .nilFunc, .nilFunc, .nilFunc] 158)) w' → ∀ P, ∃ w2, (storeCells ⟨w.heap.size, 0, none⟩ (picV P).toList 0).run Tryz.prog w' = .ok () w2 ∧ w2.rowIs w.heap.size 91 641 (picCell P) ∧ Only Nob w w2) := fun w' ho P => by
    obtain ⟨w2, a, b, c⟩ := store_pic (ho.row (hrow.alloc _) (fun q => by omega)) P
    exact ⟨w2, a, b, ((((Only.refl Nob w).alloc _).alloc _).after ho (fun b hb q => by omega)).after c (fun b hb q => by simp only [One] at q; omega)⟩
  have h2 : 2 ≤ s.size := by
    rw [isCV, beq_iff_eq] at hc
    have := congrArg List.length hc
    rw [List.length_take, nats_len] at this
    simp at this
    omega
  have hrd := rd_start (w.alloc (.cells (picV (zeroPic 0)) 91)) s h2
  rw [World.size_alloc] at hrd
  have HC := hid hc
  have hsz := zc104_size
  rw [← zc104] at hrd
  clear hc hrow
  go_enter Tryz.func75, Tryz.ntmps75
  go_wp2_with fail
  refine (cutPrefix_top _ s hs).mono ?_
  rintro e w1 ⟨rfl, rfl⟩
  rw [HC.out]
  go_wp2_with fail
  refine (rtake2_any hrd hs).mono ?_
  rintro e w1 ⟨k1, x1, f, rfl, h1, ho1, g1, f0, f1, hf, hf0⟩
  have hO1 : Only (fun b => w.heap.size < b) ((w.alloc (.cells Tryz.zeroCells91 91)).alloc (.cells #[.string (s.extract 2 s.size), .bool false, .nilFunc, .nilFunc, .nilFunc, .nilFunc, .nilFunc] 158)) w1 := ho1.mono (fun b _ q => by simp only [One] at q; omega)
  have hs1 := ho1.size
  simp only [World.size_alloc] at hs1
  clear hrd ho1
  by_cases hf3 : f ≠ 1 ∧ f ≠ 2 ∧ f ≠ 3
  · have HV : Hid (¬ Valid (nats s)) := by
      intro hv
      have h4 := valid_size hv
      rw [nats_len] at h4
      have hx1 := g1.iff.2 ⟨rfl, by omega⟩
      have := hf hx1
      rcases valid_form hv with q | q | q <;> omega
    obtain ⟨w2, hst, hrow2, hon2⟩ := HZ.out w1 hO1 (zeroPic 0)
    have HL := hid (load_pic hrow2)
    have HO := hid hon2
    rw [← zc104] at hst
    clear hrow2 hon2 hf hf0 g1 h1 hO1
    go_wp2_with fail
    refine (tell0_any _ (w.heap.size + 1) f hf3.1 hf3.2.1 hf3.2.2).mono ?_
    rintro e w3 ⟨rfl, rfl⟩
    go_wp2_with fail
    refine bodyPost_ret (v := .tuple #[.agg (picV (zeroPic 0)), .bool false]) ?_ rfl ⟨zeroPic 0, false, rfl, HO.out, ⟨fun q => (by cases q), fun q => (HV.out q).elim⟩, fun q => (by cases q), fun _ => rfl⟩
    rw [results_cell_tmp Tryz.results75]
    simp [asAddr, HL.out]
  · have hx1 : x1 = false := by
      rcases hf0 with q | q
      · exact q
      · omega
    subst hx1
    have hk1 : k1 = 3 := g1.pos rfl
    subst hk1
    have H3 : Hid (3 ≤ s.size ∧ f = (bt (nats s) 2 : Nat)) := ⟨(g1.iff.1 (by first | rfl | trivial)).2, hf (by first | rfl | trivial)⟩
    clear hf hf0 g1
    by_cases e1 : f = 1
    · subst e1
      go_wp2_with fail
      refine (tell1_any h1).mono ?_
      rintro e w2 ⟨F, rfl, h2', ho2, F2, F3, F4, F5, F6⟩
      have c2 := h2'.cF (i := 2) (by omega) (by omega)
      rw [F2] at c2
      have c3 := h2'.cF (i := 3) (by omega) (by omega)
      rw [F3] at c3
      have hrl := h2'.lt
      have hset := zc104_set (-1)
      have hsn : (storeCells ⟨w2.heap.size, 0, none⟩ (picV (zeroPic (-1))).toList 0).run Tryz.prog (w2.alloc (.cells Tryz.zeroCells91 91)) = .ok () (w2.alloc (.cells (picV (zeroPic (-1))) 91)) := run_storeCells_new w2 91 Tryz.zeroCells91 _ (by rw [info104z, picV_size]) (by rw [hsz, picV_size]) (picV_one _)
      have hsg := picV_size (zeroPic (-1))
      go_wp2_with fail
      refine (noRoot_any _ (w.heap.size + 1)).mono ?_
      rintro e w3 ⟨rfl, rfl⟩
      go_wp2_with fail
      refine (listed1_any (h2'.nob ((Only.refl Nob w2).alloc (.cells (picV (zeroPic (-1))) 91))) hs F4 F5 (picRow w2 (zeroPic (-1)) 91) (by omega)).mono ?_
      rintro e w4 ⟨k', x', P, rfl, h4, ⟨t4, r4⟩, ho4, iff4, pos4⟩
      clear hset hsn hsg c2 c3
      have d0 := h4.c0
      have d1 := h4.c1
      have d6 := h4.cF (i := 6) (by omega) (by omega)
      rw [F6] at d6
      have hx := ext_size s k'
      have hle := h4.le
      obtain ⟨rr, hrr⟩ : ∃ rr, rr = s.extract k' s.size := ⟨_, rfl⟩
      rw [← hrr] at d0 hx
      have HRR := hid hrr
      have HI4 := hid (And.intro iff4 pos4)
      clear hrr iff4 pos4
      unfold maxLen at hs
      have hxI : (rr.size : Int) = (s.size : Int) - (k' : Int) := by omega
      have hnn : s.size - (s.size - k') = k' := by omega
      have hO4 : Only (fun b => w.heap.size < b) ((w.alloc (.cells Tryz.zeroCells91 91)).alloc (.cells #[.string (s.extract 2 s.size), .bool false, .nilFunc, .nilFunc, .nilFunc, .nilFunc, .nilFunc] 158)) w4 := ((hO1.trans (ho2.mono (fun b _ q => by simp only [One] at q; omega))).alloc _).trans (ho4.mono (fun b _ q => by simp only [RdTwo] at q; omega))
      have HV : Hid ((x' = false ∧ nats rr = seal1 (nats (s.extract 0 k'))) ↔ Valid (nats s)) := by
        rw [Hid, HRR.out]
        refine valid1 HC.out (by have := H3.out.2; omega) ?_ (fun q => (HI4.out.2 q).1)
        rw [HI4.out.1]
        simp
      have HP : Hid (x' = false → P.Same (picOf (nats s))) := fun q => by
        have e : picOf (nats s) = P := by
          rw [(HI4.out.2 q).2, picOf, if_pos (by have := H3.out.2; omega)]
        rw [e]
        exact ⟨rfl, fun _ _ => rfl, fun _ _ => rfl, fun _ _ _ _ => rfl⟩
      have R4 := hid r4
      have HO4 := hid hO4
      clear r4 hO4 ho4 hO1 ho2 h2' h1
      cases hx4 : x' with
      | true =>
        rw [hx4] at d1
        obtain ⟨w5, hst, hrow5, hon5⟩ := HZ.out w4.drew HO4.out.drew (zeroPic 0)
        rw [← zc104] at hst
        have HL := hid (load_pic hrow5)
        have HO5 := hid hon5
        clear hrow5 hon5
        go_wp2_with fail
        go_region
        all_goals
          go_wp2_with fail
          refine bodyPost_ret (v := .tuple #[.agg (picV (zeroPic 0)), .bool false]) ?_ rfl ⟨zeroPic 0, false, rfl, HO5.out, ⟨fun q => (by cases q), fun q => ?_⟩, fun q => (by cases q), fun _ => rfl⟩
          · rw [results_cell_tmp Tryz.results75]
            simp [asAddr, HL.out]
          · have := (HV.out.2 q).1
            rw [hx4] at this
            cases this
      | false =>
        rw [hx4] at d1
        obtain ⟨c, hcc⟩ : ∃ c, c = decide (nats rr = seal1 (nats (s.extract 0 k'))) := ⟨_, rfl⟩
        have HCC := hid hcc
        have hcmp : (rr.toList == (toS ([(nats (s.extract 0 k')).sum % 256])).toList) = c := by
          rw [bool_lists, hcc, nats_toS]
          · rfl
          · intro x hx
            rw [List.mem_singleton] at hx
            omega
        clear hcc
        have HSZ0 : Hid ((s.extract 0 k').size ≤ maxLen) := by
          have := ext_size0 s k' hle
          unfold Hid maxLen
          omega
        have HK5 : Hid (∀ w5, Only Nob w4.drew w5 → w5.cell? ⟨w.heap.size + 1, 1, none⟩ = some (.bool false) ∧ w5.cell? ⟨w.heap.size + 1, 0, none⟩ = some (.string rr) ∧ w5.cell? ⟨w.heap.size + 1, 6, none⟩ = some (.func (.func 115) #[] #[])) := fun w5 ho => by
          have o : Only Nob w4 w5 := (Only.refl Nob w4).drew.trans ho
          exact ⟨o.keep (fun q => q) d1, o.keep (fun q => q) d0, o.keep (fun q => q) d6⟩
        go_wp2_with fail
        go_region_held3 (fun w' => w'.cell? ⟨w.heap.size + 1, 1, none⟩ = some (.bool false) ∧ w'.cell? ⟨w.heap.size + 1, 0, none⟩ = some (.string rr) ∧ w'.cell? ⟨w.heap.size + 1, 6, none⟩ = some (.func (.func 115) #[] #[])) (go_keep) (first | (go_at_call 115; refine (shortSum_any _ (s.extract 0 k') HSZ0.out).mono ?_; rintro e w5 ⟨rfl, ho5⟩; obtain ⟨a0, a1, a6⟩ := HK5.out w5 ho5))
        all_goals
          clear a0 a1 a6 d0 d1 d6
          have hO5 : Only (fun b => w.heap.size < b) ((w.alloc (.cells Tryz.zeroCells91 91)).alloc (.cells #[.string (s.extract 2 s.size), .bool false, .nilFunc, .nilFunc, .nilFunc, .nilFunc, .nilFunc] 158)) w5 := (HO4.out.drew).trans ho5.of_nob
          have hr5 := ho5.row R4.out.drew (fun q => q)
          cases hcv : c with
          | true =>
            have HOK : Hid (Valid (nats s)) := HV.out.1 ⟨hx4, by have := HCC.out; rw [hcv] at this; exact of_decide_eq_true this.symm⟩
            obtain ⟨w6, hst, hrow6, hon6⟩ := HZ.out w5 hO5 P
            have HL := hid (load_pic hrow6)
            have HO6 := hid hon6
            have HPR := hid (rowIs_pic hr5)
            have HST := hid hst
            clear hst
            clear hrow6 hon6 hr5 hO5 ho5
            rw [hcv] at hcmp
            have HTA : Hid ((picV P).toList.toArray = picV P) := Array.toArray_toList
            go_upto_if 65 with fail
            refine wp_cond_false rfl ?_
            refine wp_skip ?_
            rename_i K hK hHeld
            refine hK _ _ ?_
            clear hK hHeld
            refine wp_seq_k (fun K2 hK2 => ?_)
            refine wp_region_lit ?_
            refine wpList_load_mid rfl 91 (.tmp 7) rfl w2.heap.size 0 rfl (picV P).toList _ HPR.out Tryz.underlying91 rfl (info104s P) ?_
            rw [HTA.out]
            have hst := HST.out
            have hsp := picV_size P
            go_wp2_with fail
            refine bodyPost_ret (v := .tuple #[.agg (picV P), .bool true]) ?_ rfl ⟨P, true, rfl, HO6.out, ⟨fun _ => HOK.out, fun _ => rfl⟩, fun _ => HP.out hx4, fun q => (by cases q)⟩
            rw [results_cell_tmp Tryz.results75]
            simp [asAddr, HL.out]
          | false =>
            have HNO : Hid (¬ Valid (nats s)) := fun q => by
              have q2 := (HV.out.2 q).2
              have := HCC.out
              rw [hcv, decide_eq_true q2] at this
              cases this
            obtain ⟨w6, hst, hrow6, hon6⟩ := HZ.out w5 hO5 (zeroPic 0)
            rw [← zc104] at hst
            have HL := hid (load_pic hrow6)
            have HO6 := hid hon6
            clear hrow6 hon6 hr5 hO5 ho5
            rw [hcv] at hcmp
            go_wp2_with fail
            refine bodyPost_ret (v := .tuple #[.agg (picV (zeroPic 0)), .bool false]) ?_ rfl ⟨zeroPic 0, false, rfl, HO6.out, ⟨fun q => (by cases q), fun q => (HNO.out q).elim⟩, fun q => (by cases q), fun _ => rfl⟩
            rw [results_cell_tmp Tryz.results75]
            simp [asAddr, HL.out]
    · by_cases e2 : f = 2
      · subst e2
        go_wp2_with fail
        refine (tell2_any h1).mono ?_
        rintro e w2 ⟨F, rfl, h2', ho2, F2, F3, F4, F5, F6⟩
        have c2 := h2'.cF (i := 2) (by omega) (by omega)
        rw [F2] at c2
        go_wp2_with fail
        refine (rootPage_any h2' hs).mono ?_
        rintro e w3 ⟨k3, x3, v, rfl, h3, ho3, v0, v1, iffr, posr⟩
        have HRT : Hid ((x3 = false ↔ (4 ≤ s.size ∧ rootOk (nats s))) ∧ (x3 = false → k3 = 4 ∧ v = rootOf (nats s))) := ⟨by rw [iffr]; simp, posr⟩
        have c3 := h3.cF (i := 3) (by omega) (by omega)
        rw [F3] at c3
        have hrl := h3.lt
        have hs3 := ho3.size
        have hset := zc104_set v
        have hsn : (storeCells ⟨w3.heap.size, 0, none⟩ (picV (zeroPic v)).toList 0).run Tryz.prog (w3.alloc (.cells Tryz.zeroCells91 91)) = .ok () (w3.alloc (.cells (picV (zeroPic v)) 91)) := run_storeCells_new w3 91 Tryz.zeroCells91 _ (by rw [info104z, picV_size]) (by rw [hsz, picV_size]) (picV_one _)
        have hsg := picV_size (zeroPic v)
        clear iffr posr c2
        go_wp2_with fail
        refine (listed2_any (h3.nob ((Only.refl Nob w3).alloc (.cells (picV (zeroPic v)) 91))) hs F4 F5 (picRow w3 (zeroPic v) 91) (by omega)).mono ?_
        rintro e w4 ⟨k', x', P, rfl, h4, ⟨t4, r4⟩, ho4, iff4, pos4⟩
        clear hset hsn hsg c3
        have d0 := h4.c0
        have d1 := h4.c1
        have d6 := h4.cF (i := 6) (by omega) (by omega)
        rw [F6] at d6
        have hx := ext_size s k'
        have hle := h4.le
        obtain ⟨rr, hrr⟩ : ∃ rr, rr = s.extract k' s.size := ⟨_, rfl⟩
        rw [← hrr] at d0 hx
        have HRR := hid hrr
        have HI4 := hid (And.intro iff4 pos4)
        clear hrr iff4 pos4
        unfold maxLen at hs
        have hxI : (rr.size : Int) = (s.size : Int) - (k' : Int) := by omega
        have hnn : s.size - (s.size - k') = k' := by omega
        have hO4 : Only (fun b => w.heap.size < b) ((w.alloc (.cells Tryz.zeroCells91 91)).alloc (.cells #[.string (s.extract 2 s.size), .bool false, .nilFunc, .nilFunc, .nilFunc, .nilFunc, .nilFunc] 158)) w4 := ((hO1.trans ((ho2.trans ho3).mono (fun b _ q => by simp only [One] at q; omega))).alloc _).trans (ho4.mono (fun b _ q => by simp only [RdTwo] at q; omega))
        have HV : Hid ((x' = false ∧ nats rr = seal2 (nats (s.extract 0 k'))) ↔ Valid (nats s)) := by
          rw [Hid, HRR.out]
          have hk3 : x3 = false → k3 = 4 := fun q => (HRT.out.2 q).1
          refine valid2 HC.out (by have := H3.out.2; omega) ?_ (fun q => ?_)
          · rw [HI4.out.1]
            constructor
            · rintro ⟨q1, q2, q3, q4⟩
              have := HRT.out.1.1 q1
              rw [hk3 q1] at q2 q3 q4
              exact ⟨this.1, this.2, q2, q3, q4⟩
            · rintro ⟨q0, q1, q2, q3, q4⟩
              have q := HRT.out.1.2 ⟨q0, q1⟩
              rw [hk3 q]
              exact ⟨q, q2, q3, q4⟩
          · have q3 := (HI4.out.1.1 q).1
            rw [(HI4.out.2 q).1, hk3 q3]
        have HP : Hid (x' = false → P.Same (picOf (nats s))) := fun q => by
          have q3 := (HI4.out.1.1 q).1
          have e : picOf (nats s) = P := by
            rw [(HI4.out.2 q).2, (HRT.out.2 q3).1, (HRT.out.2 q3).2, picOf, if_neg (by have := H3.out.2; omega), if_pos (by have := H3.out.2; omega)]
          rw [e]
          exact ⟨rfl, fun _ _ => rfl, fun _ _ => rfl, fun _ _ _ _ => rfl⟩
        have R4 := hid r4
        have HO4 := hid hO4
        clear r4 hO4 ho4 hO1 ho2 ho3 h2' h3 h1
        cases hx4 : x' with
        | true =>
          rw [hx4] at d1
          obtain ⟨w5, hst, hrow5, hon5⟩ := HZ.out w4.drew HO4.out.drew (zeroPic 0)
          rw [← zc104] at hst
          have HL := hid (load_pic hrow5)
          have HO5 := hid hon5
          clear hrow5 hon5
          go_wp2_with fail
          go_region
          all_goals
            go_wp2_with fail
            refine bodyPost_ret (v := .tuple #[.agg (picV (zeroPic 0)), .bool false]) ?_ rfl ⟨zeroPic 0, false, rfl, HO5.out, ⟨fun q => (by cases q), fun q => ?_⟩, fun q => (by cases q), fun _ => rfl⟩
            · rw [results_cell_tmp Tryz.results75]
              simp [asAddr, HL.out]
            · have := (HV.out.2 q).1
              rw [hx4] at this
              cases this
        | false =>
          rw [hx4] at d1
          obtain ⟨c, hcc⟩ : ∃ c, c = decide (nats rr = seal2 (nats (s.extract 0 k'))) := ⟨_, rfl⟩
          have HCC := hid hcc
          have hcmp : (rr.toList == (toS ([(nats (s.extract 0 k')).sum % 256, (nats (s.extract 0 k')).sum / 256 % 256])).toList) = c := by
            rw [bool_lists, hcc, nats_toS]
            · rfl
            · intro x hx
              simp only [List.mem_cons, List.not_mem_nil, or_false] at hx
              rcases hx with rfl | rfl <;> omega
          clear hcc
          have HSZ0 : Hid ((s.extract 0 k').size ≤ maxLen) := by
            have := ext_size0 s k' hle
            unfold Hid maxLen
            omega
          have HK5 : Hid (∀ w5, Only Nob w4.drew w5 → w5.cell? ⟨w.heap.size + 1, 1, none⟩ = some (.bool false) ∧ w5.cell? ⟨w.heap.size + 1, 0, none⟩ = some (.string rr) ∧ w5.cell? ⟨w.heap.size + 1, 6, none⟩ = some (.func (.func 119) #[] #[])) := fun w5 ho => by
            have o : Only Nob w4 w5 := (Only.refl Nob w4).drew.trans ho
            exact ⟨o.keep (fun q => q) d1, o.keep (fun q => q) d0, o.keep (fun q => q) d6⟩
          go_wp2_with fail
          go_region_held3 (fun w' => w'.cell? ⟨w.heap.size + 1, 1, none⟩ = some (.bool false) ∧ w'.cell? ⟨w.heap.size + 1, 0, none⟩ = some (.string rr) ∧ w'.cell? ⟨w.heap.size + 1, 6, none⟩ = some (.func (.func 119) #[] #[])) (go_keep) (first | (go_at_call 119; refine (longSum_any _ (s.extract 0 k') HSZ0.out).mono ?_; rintro e w5 ⟨rfl, ho5⟩; obtain ⟨a0, a1, a6⟩ := HK5.out w5 ho5))
          all_goals
            clear a0 a1 a6 d0 d1 d6
            have hO5 : Only (fun b => w.heap.size < b) ((w.alloc (.cells Tryz.zeroCells91 91)).alloc (.cells #[.string (s.extract 2 s.size), .bool false, .nilFunc, .nilFunc, .nilFunc, .nilFunc, .nilFunc] 158)) w5 := (HO4.out.drew).trans ho5.of_nob
            have hr5 := ho5.row R4.out.drew (fun q => q)
            cases hcv : c with
            | true =>
              have HOK : Hid (Valid (nats s)) := HV.out.1 ⟨hx4, by have := HCC.out; rw [hcv] at this; exact of_decide_eq_true this.symm⟩
              obtain ⟨w6, hst, hrow6, hon6⟩ := HZ.out w5 hO5 P
              have HL := hid (load_pic hrow6)
              have HO6 := hid hon6
              have HPR := hid (rowIs_pic hr5)
              have HST := hid hst
              clear hst
              clear hrow6 hon6 hr5 hO5 ho5
              rw [hcv] at hcmp
              have HTA : Hid ((picV P).toList.toArray = picV P) := Array.toArray_toList
              go_upto_if 65 with fail
              refine wp_cond_false rfl ?_
              refine wp_skip ?_
              rename_i K hK hHeld
              refine hK _ _ ?_
              clear hK hHeld
              refine wp_seq_k (fun K2 hK2 => ?_)
              refine wp_region_lit ?_
              refine wpList_load_mid rfl 91 (.tmp 7) rfl w3.heap.size 0 rfl (picV P).toList _ HPR.out Tryz.underlying91 rfl (info104s P) ?_
              rw [HTA.out]
              have hst := HST.out
              have hsp := picV_size P
              go_wp2_with fail
              refine bodyPost_ret (v := .tuple #[.agg (picV P), .bool true]) ?_ rfl ⟨P, true, rfl, HO6.out, ⟨fun _ => HOK.out, fun _ => rfl⟩, fun _ => HP.out hx4, fun q => (by cases q)⟩
              rw [results_cell_tmp Tryz.results75]
              simp [asAddr, HL.out]
            | false =>
              have HNO : Hid (¬ Valid (nats s)) := fun q => by
                have q2 := (HV.out.2 q).2
                have := HCC.out
                rw [hcv, decide_eq_true q2] at this
                cases this
              obtain ⟨w6, hst, hrow6, hon6⟩ := HZ.out w5 hO5 (zeroPic 0)
              rw [← zc104] at hst
              have HL := hid (load_pic hrow6)
              have HO6 := hid hon6
              clear hrow6 hon6 hr5 hO5 ho5
              rw [hcv] at hcmp
              go_wp2_with fail
              refine bodyPost_ret (v := .tuple #[.agg (picV (zeroPic 0)), .bool false]) ?_ rfl ⟨zeroPic 0, false, rfl, HO6.out, ⟨fun q => (by cases q), fun q => (HNO.out q).elim⟩, fun q => (by cases q), fun _ => rfl⟩
              rw [results_cell_tmp Tryz.results75]
              simp [asAddr, HL.out]
      · have e3 : f = 3 := by omega
        subst e3
        go_wp2_with fail
        refine (tell3_any h1).mono ?_
        rintro e w2 ⟨F, rfl, h2', ho2, F2, F3, F5, F6⟩
        have c2 := h2'.cF (i := 2) (by omega) (by omega)
        rw [F2] at c2
        go_wp2_with fail
        refine (rootPage_any h2' hs).mono ?_
        rintro e w3 ⟨k3, x3, v, rfl, h3, ho3, v0, v1, iffr, posr⟩
        have HRT : Hid ((x3 = false ↔ (4 ≤ s.size ∧ rootOk (nats s))) ∧ (x3 = false → k3 = 4 ∧ v = rootOf (nats s))) := ⟨by rw [iffr]; simp, posr⟩
        have c3 := h3.cF (i := 3) (by omega) (by omega)
        rw [F3] at c3
        have hrl := h3.lt
        have hs3 := ho3.size
        have hset := zc104_set v
        have hsn : (storeCells ⟨w3.heap.size, 0, none⟩ (picV (zeroPic v)).toList 0).run Tryz.prog (w3.alloc (.cells Tryz.zeroCells91 91)) = .ok () (w3.alloc (.cells (picV (zeroPic v)) 91)) := run_storeCells_new w3 91 Tryz.zeroCells91 _ (by rw [info104z, picV_size]) (by rw [hsz, picV_size]) (picV_one _)
        have hsg := picV_size (zeroPic v)
        clear iffr posr c2
        go_wp2_with fail
        refine (mapped_any (h3.nob ((Only.refl Nob w3).alloc (.cells (picV (zeroPic v)) 91))) hs F5 (picRow w3 (zeroPic v) 91) (by omega)).mono ?_
        rintro e w4 ⟨k', x', P, X, Y, Z, kb, xb, x4b, rfl, hM, hG, i4b, hN⟩
        have HMM := hid (And.intro hM (And.intro hG (And.intro i4b hN)))
        have h4 := hM.rd
        obtain ⟨t4, r4⟩ := hM.row
        have ho4 := hM.only
        clear hM hG i4b hN
        clear hset hsn hsg c3
        have d0 := h4.c0
        have d1 := h4.c1
        have d6 := h4.cF (i := 6) (by omega) (by omega)
        rw [F6] at d6
        have hx := ext_size s k'
        have hle := h4.le
        obtain ⟨rr, hrr⟩ : ∃ rr, rr = s.extract k' s.size := ⟨_, rfl⟩
        rw [← hrr] at d0 hx
        have HRR := hid hrr
        clear hrr
        unfold maxLen at hs
        have hxI : (rr.size : Int) = (s.size : Int) - (k' : Int) := by omega
        have hnn : s.size - (s.size - k') = k' := by omega
        have hO4 : Only (fun b => w.heap.size < b) ((w.alloc (.cells Tryz.zeroCells91 91)).alloc (.cells #[.string (s.extract 2 s.size), .bool false, .nilFunc, .nilFunc, .nilFunc, .nilFunc, .nilFunc] 158)) w4 := ((hO1.trans ((ho2.trans ho3).mono (fun b _ q => by simp only [One] at q; omega))).alloc _).trans (ho4.mono (fun b _ q => by simp only [RdTwo] at q; omega))
        have HVP := hid (valid3 HC.out (by have := H3.out.2; omega) HRT.out.1 HRT.out.2 HMM.out.2.1 HMM.out.2.2.1 HMM.out.2.2.2 HMM.out.1)
        have HV : Hid ((x' = false ∧ nats rr = checkL (nats (s.extract 0 k'))) ↔ Valid (nats s)) := by
          rw [Hid, HRR.out]
          exact HVP.out.1
        have HP : Hid (x' = false → P.Same (picOf (nats s))) := HVP.out.2
        have R4 := hid r4
        have HO4 := hid hO4
        clear r4 hO4 ho4 hO1 ho2 ho3 h2' h3 h1
        cases hx4 : x' with
        | true =>
          rw [hx4] at d1
          obtain ⟨w5, hst, hrow5, hon5⟩ := HZ.out w4.drew HO4.out.drew (zeroPic 0)
          rw [← zc104] at hst
          have HL := hid (load_pic hrow5)
          have HO5 := hid hon5
          clear hrow5 hon5
          go_wp2_with fail
          go_region
          all_goals
            go_wp2_with fail
            refine bodyPost_ret (v := .tuple #[.agg (picV (zeroPic 0)), .bool false]) ?_ rfl ⟨zeroPic 0, false, rfl, HO5.out, ⟨fun q => (by cases q), fun q => ?_⟩, fun q => (by cases q), fun _ => rfl⟩
            · rw [results_cell_tmp Tryz.results75]
              simp [asAddr, HL.out]
            · have := (HV.out.2 q).1
              rw [hx4] at this
              cases this
        | false =>
          rw [hx4] at d1
          obtain ⟨c, hcc⟩ : ∃ c, c = decide (nats rr = checkL (nats (s.extract 0 k'))) := ⟨_, rfl⟩
          have HCC := hid hcc
          have hcmp : (rr.toList == (toS (checkL (nats (s.extract 0 k')))).toList) = c := by
            rw [bool_lists, hcc, nats_toS]
            exact checkL_lt _
          clear hcc
          have HSZ0 : Hid ((s.extract 0 k').size ≤ maxLen) := by
            have := ext_size0 s k' hle
            unfold Hid maxLen
            omega
          have HK5 : Hid (∀ w5, Only Nob w4.drew w5 → w5.cell? ⟨w.heap.size + 1, 1, none⟩ = some (.bool false) ∧ w5.cell? ⟨w.heap.size + 1, 0, none⟩ = some (.string rr) ∧ w5.cell? ⟨w.heap.size + 1, 6, none⟩ = some (.func (.func 99) #[] #[])) := fun w5 ho => by
            have o : Only Nob w4 w5 := (Only.refl Nob w4).drew.trans ho
            exact ⟨o.keep (fun q => q) d1, o.keep (fun q => q) d0, o.keep (fun q => q) d6⟩
          go_wp2_with fail
          go_region_held3 (fun w' => w'.cell? ⟨w.heap.size + 1, 1, none⟩ = some (.bool false) ∧ w'.cell? ⟨w.heap.size + 1, 0, none⟩ = some (.string rr) ∧ w'.cell? ⟨w.heap.size + 1, 6, none⟩ = some (.func (.func 99) #[] #[])) (go_keep) (first | (go_at_call 99; refine (adler_any _ (s.extract 0 k') HSZ0.out).mono ?_; rintro e w5 ⟨rfl, ho5⟩; obtain ⟨a0, a1, a6⟩ := HK5.out w5 ho5))
          all_goals
            clear a0 a1 a6 d0 d1 d6
            have hO5 : Only (fun b => w.heap.size < b) ((w.alloc (.cells Tryz.zeroCells91 91)).alloc (.cells #[.string (s.extract 2 s.size), .bool false, .nilFunc, .nilFunc, .nilFunc, .nilFunc, .nilFunc] 158)) w5 := (HO4.out.drew).trans ho5.of_nob
            have hr5 := ho5.row R4.out.drew (fun q => q)
            cases hcv : c with
            | true =>
              have HOK : Hid (Valid (nats s)) := HV.out.1 ⟨hx4, by have := HCC.out; rw [hcv] at this; exact of_decide_eq_true this.symm⟩
              obtain ⟨w6, hst, hrow6, hon6⟩ := HZ.out w5 hO5 P
              have HL := hid (load_pic hrow6)
              have HO6 := hid hon6
              have HPR := hid (rowIs_pic hr5)
              have HST := hid hst
              clear hst
              clear hrow6 hon6 hr5 hO5 ho5
              rw [hcv] at hcmp
              have HTA : Hid ((picV P).toList.toArray = picV P) := Array.toArray_toList
              go_upto_if 65 with fail
              refine wp_cond_false rfl ?_
              refine wp_skip ?_
              rename_i K hK hHeld
              refine hK _ _ ?_
              clear hK hHeld
              refine wp_seq_k (fun K2 hK2 => ?_)
              refine wp_region_lit ?_
              refine wpList_load_mid rfl 91 (.tmp 7) rfl w3.heap.size 0 rfl (picV P).toList _ HPR.out Tryz.underlying91 rfl (info104s P) ?_
              rw [HTA.out]
              have hst := HST.out
              have hsp := picV_size P
              go_wp2_with fail
              refine bodyPost_ret (v := .tuple #[.agg (picV P), .bool true]) ?_ rfl ⟨P, true, rfl, HO6.out, ⟨fun _ => HOK.out, fun _ => rfl⟩, fun _ => HP.out hx4, fun q => (by cases q)⟩
              rw [results_cell_tmp Tryz.results75]
              simp [asAddr, HL.out]
            | false =>
              have HNO : Hid (¬ Valid (nats s)) := fun q => by
                have q2 := (HV.out.2 q).2
                have := HCC.out
                rw [hcv, decide_eq_true q2] at this
                cases this
              obtain ⟨w6, hst, hrow6, hon6⟩ := HZ.out w5 hO5 (zeroPic 0)
              rw [← zc104] at hst
              have HL := hid (load_pic hrow6)
              have HO6 := hid hon6
              clear hrow6 hon6 hr5 hO5 ho5
              rw [hcv] at hcmp
              go_wp2_with fail
              refine bodyPost_ret (v := .tuple #[.agg (picV (zeroPic 0)), .bool false]) ?_ rfl ⟨zeroPic 0, false, rfl, HO6.out, ⟨fun q => (by cases q), fun q => (HNO.out q).elim⟩, fun q => (by cases q), fun _ => rfl⟩
              rw [results_cell_tmp Tryz.results75]
              simp [asAddr, HL.out]

/-- Read: the guest of bytes, or none. -/
theorem read_any (w : World) (s : ByteArray) (hs : s.size ≤ maxLen) : Calls Tryz.prog 75 #[.string s] w (RdPost s w) := by
  cases hc : isCV s with
  | true => exact readIs_any w s hs hc
  | false =>
    refine (readNot_any w s hs hc).mono ?_
    rintro e w' ⟨rfl, ho⟩
    exact ⟨zeroPic 0, false, rfl, ho, ⟨fun q => (by cases q), fun q => (notCV hc q).elim⟩, fun q => (by cases q), fun _ => rfl⟩
end Go.Proofs.YtfcepnhknmbaaaaGreat

/- The contract of Upgrade; and Restore by admit's. -/
namespace Go.Proofs.YtfcepnhknmbaaaaGreat
open Go.RowKit Go.Deep

theorem Pic.Same.good {P Q : Pic} (h : P.Same Q) (hQ : Q.Good) : P.Good := ⟨by rw [h.root]; exact hQ.r0, by rw [h.root]; exact hQ.r1, fun p k hp hk => by rw [h.wd p k hp hk]; exact hQ.w p k hp hk⟩

set_option maxRecDepth 100000 in
set_option maxHeartbeats 2000000 in
theorem upgrade_any (w : World) (s : ByteArray) (hs : s.size ≤ maxLen) :
    Calls Tryz.prog 43 #[.string s] w fun e w' => (Valid (nats s) → e = .returned (.tuple #[.string (toS (encL (picOf (nats s)))), .int .i64 0])) ∧ (¬ Valid (nats s) → e = .returned (.tuple #[.string { data := #[] }, .int .i64 10])) ∧ Only Nob w w' := by
  have hsz := zc104_size
  go_enter Tryz.func43, Tryz.ntmps43
  go_wp2_with fail
  refine (read_any _ s hs).mono ?_
  rintro e w1 ⟨P, ok, rfl, ho1, hv, hsm, hz⟩
  have hsn : (storeCells ⟨w1.heap.size, 0, none⟩ (picV P).toList 0).run Tryz.prog (w1.alloc (.cells Tryz.zeroCells91 91)) = .ok () (w1.alloc (.cells (picV P) 91)) := run_storeCells_new w1 91 Tryz.zeroCells91 _ (by rw [info104z, picV_size]) (by rw [hsz, picV_size]) (picV_one _)
  have HPR := hid (rowIs_pic (picRow w1 P 91))
  have HSI := hid (info104s P)
  have hsp := picV_size P
  have HO1 := hid ho1
  cases ok with
  | false =>
    have HV : Hid (¬ Valid (nats s)) := fun q => (by have := hv.2 q; cases this)
    clear hv hsm hz ho1
    generalize picV P = Pv at *
    go_wp2_with fail
    go_ret2
    exact ⟨fun q => (HV.out q).elim, fun _ => rfl, HO1.out.alloc _⟩
  | true =>
    have hV := hv.1 rfl
    have hS := hsm rfl
    have hGd := hS.good (valid_good (nats_bys s) hV).1
    have HW := hid (fun w => write_any w P hGd)
    have HE : Hid (toS (encL P) = toS (encL (picOf (nats s)))) := by rw [Hid, encL_congr hS]
    have HV := hid hV
    clear hv hsm hz ho1 hV hS hGd
    generalize picV P = Pv at *
    go_wp2_with fail
    refine wp_load_mid 91 (.tmp 4) rfl w1.heap.size 0 rfl Pv.toList _ HPR.out Tryz.underlying91 rfl HSI.out ?_
    rw [Array.toArray_toList]
    go_wp2_with fail
    refine (HW.out _).mono ?_
    rintro e w2 ⟨rfl, ho2⟩
    go_wp2_with fail
    go_ret2
    exact ⟨fun _ => by rw [← HE.out]; rfl, fun q => (q HV.out).elim, (HO1.out.alloc _).trans ho2⟩

set_option maxRecDepth 100000 in
set_option maxHeartbeats 2000000 in
/-- Restore of bytes that are none's. -/
theorem restoreBad_any (w : World) (mb : Nat) (s : ByteArray) (hs : s.size ≤ maxLen) (hV : ¬ Valid (nats s)) :
    Calls Tryz.prog 41 #[pt mb, .string s] w fun e w' => e = .returned (.tuple #[.int .i64 0, .int .i64 10]) ∧ Only Nob w w' := by
  have hsz := zc104_size
  have HV := hid hV
  clear hV
  go_enter Tryz.func41, Tryz.ntmps41
  go_wp2_with fail
  refine (read_any _ s hs).mono ?_
  rintro e w1 ⟨P, ok, rfl, ho1, hv, hsm, hz⟩
  have hok : ok = false := by
    cases ok with
    | false => rfl
    | true => exact (HV.out (hv.1 rfl)).elim
  subst hok
  have hsn : (storeCells ⟨w1.heap.size, 0, none⟩ (picV P).toList 0).run Tryz.prog (w1.alloc (.cells Tryz.zeroCells91 91)) = .ok () (w1.alloc (.cells (picV P) 91)) := run_storeCells_new w1 91 Tryz.zeroCells91 _ (by rw [info104z, picV_size]) (by rw [hsz, picV_size]) (picV_one _)
  have hsp := picV_size P
  have HO1 := hid ho1
  clear hv hsm hz ho1
  generalize picV P = Pv at *
  go_wp2_with fail
  go_ret2
  exact ⟨rfl, HO1.out.alloc _⟩

set_option maxRecDepth 100000 in
set_option maxHeartbeats 2000000 in
/-- Restore, by what admit does. -/
theorem restore_by (w : World) (mb : Nat) (s : ByteArray) (hs : s.size ≤ maxLen) (hV : Valid (nats s)) {R : Pic → World → Ending → World → Prop}
   (hR : ∀ P w1, P.Same (picOf (nats s)) → P.Good → Only Nob w w1 → Calls Tryz.prog 48 #[pt mb, .agg (picV P)] w1 fun e w' => ∃ a b, e = .returned (.tuple #[.int .i64 a, .int .i64 b]) ∧ R P w1 e w') :
    Calls Tryz.prog 41 #[pt mb, .string s] w fun e w' => ∃ P w1, P.Same (picOf (nats s)) ∧ P.Good ∧ Only Nob w w1 ∧ R P w1 e w' := by
  have hsz := zc104_size
  have HV := hid hV
  clear hV
  go_enter Tryz.func41, Tryz.ntmps41
  go_wp2_with fail
  refine (read_any _ s hs).mono ?_
  rintro e w1 ⟨P, ok, rfl, ho1, hv, hsm, hz⟩
  have hok : ok = true := hv.2 HV.out
  subst hok
  have hS := hsm rfl
  have hGd := hS.good (valid_good (nats_bys s) HV.out).1
  have hsn : (storeCells ⟨w1.heap.size, 0, none⟩ (picV P).toList 0).run Tryz.prog (w1.alloc (.cells Tryz.zeroCells91 91)) = .ok () (w1.alloc (.cells (picV P) 91)) := run_storeCells_new w1 91 Tryz.zeroCells91 _ (by rw [info104z, picV_size]) (by rw [hsz, picV_size]) (picV_one _)
  have HPR := hid (rowIs_pic (picRow w1 P 91))
  have HSI := hid (info104s P)
  have hsp := picV_size P
  have HO2 : Hid (Only Nob w (w1.alloc (.cells (picV P) 91))) := ho1.alloc _
  have HC := hid (hR P (w1.alloc (.cells (picV P) 91)) hS hGd HO2.out)
  have HS := hid (And.intro hS hGd)
  clear hv hsm hz ho1 hS hGd hR
  generalize picV P = Pv at *
  go_wp2_with fail
  refine wp_load_mid 91 (.tmp 6) rfl w1.heap.size 0 rfl Pv.toList _ HPR.out Tryz.underlying91 rfl HSI.out ?_
  rw [Array.toArray_toList]
  go_wp2_with fail
  refine HC.out.mono ?_
  rintro e w2 ⟨a, b, rfl, hRR⟩
  have HRR := hid hRR
  clear hRR
  go_wp2_with fail
  go_ret2
  exact ⟨P, _, HS.out.1, HS.out.2, HO2.out, HRR.out⟩
end Go.Proofs.YtfcepnhknmbaaaaGreat
