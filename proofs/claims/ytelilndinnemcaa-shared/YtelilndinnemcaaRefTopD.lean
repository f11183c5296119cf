/- The contracts of the document's Create and Destroy. -/
import Derived.Test.YtelilndinnemcaaRefTopC
import Derived.Deep.RegionLaw
namespace Go.Proofs.Ytelilndinnemcaa
open Go.RowKit Go.Deep

/-- append onto a slice that is owned, as one step of a region that draws. -/
theorem step_append_own {P : Program} {ops : Array Oper} {o : Oper} {a : Act} {w : World} {K : Act → World → Prop} {Q : Exit → Act → World → Prop} {E : Prop}
    (hg : o.guard = none) (s x : Operand) (t : TypeId) (hop : o.op = Op.call { callee := Callee.builtin Builtin.append, args := #[s, x], argTypes := #[t, t] })
    (base : Nat) (e : TypeId) (i : TypeInfo) (z : Value) (size bytes : Nat) (ht : P.underlying t = some (.slice e)) (hi : P.info? e = some i) (hz : i.zero = some z)
    (hsize : i.size = size) (hby : i.bytes = bytes) (hzs : z.cells.size = size) (hsz : 0 < size)
    (v : Value) (n : Nat) (xs : List Value) (hs : a.eval s = v) (hown : w.ownsRow base e size v n xs)
    (ad : Addr) (m c : Nat) (news : List Value) (hx : a.eval x = .slice (some ad) m c) (hl : news.length = m * size) (hnews : ∀ j u, news[j]? = some u → w.cell? (ad.add j) = some u) (h1 : ∀ u ∈ news, u.oneCell' = true)
    (h63 : n + m ≤ maxLen) (hbytes : (n + m) * bytes ≤ 140737488355328) (hbase : base ≤ w.heap.size)
    (hK : ∀ v' w', w'.ownsRow base e size v' (n + m) (xs ++ news) → w.grownBy w' v.ownBlock → (v'.ownBlock = v.ownBlock ∨ v'.ownBlock = some w.heap.size) → K (a.put o.dst v') w') :
    if Region.wanted o (yielded ops a.tmps) = true then Oper.wp P o a w K Q else E := by
  have hw : Region.wanted o (yielded ops a.tmps) = true := by simp [Region.wanted, hg]
  rw [if_pos hw]
  obtain ⟨v', w', hrun, r1, r2, _, r3⟩ := run_append_own_at (P := P) w base t o.type e i z size bytes ht hi hz hsize hby hzs hsz v n xs hown ad m c news hl hnews h1 h63 hbytes hbase
  unfold Oper.wp
  simp [execOp, hop, resolve, invoke, builtin, hs, hx, hrun, Result.andThen]
  exact hK v' w' r1 r2 r3

theorem ptr_info : (Try.prog.info? 129).map (fun i => (i.zero, i.size, i.bytes)) = some (some (.pointer none), 1, 8) := by kernel_rfl

def RS.createCode (R : RS) : Int := if 4 ≤ R.L.length then 2 else if R.free < 1 then 3 else 0
def newG (n : Int) (gb : Nat) : RG := ⟨n, -1, gb, fun _ => none, fun _ => false⟩
def RS.created (R : RS) (v : Value) (gb : Nat) : RS := { R with last := R.last + 1, gv := v, L := R.L ++ [newG (R.last + 1) gb] }

set_option maxHeartbeats 1000000 in
theorem rcreateMany_any (w : World) (rb : Nat) (R : RS) (h : Refm w rb R) (hc : 4 ≤ R.L.length) :
    Calls Try.prog 72 #[pt rb] w fun e w' => e = .returned (.tuple #[.int .i64 0, .int .i64 2]) ∧ w = w' := by
  have c1 := h.c1
  have hm := h.many
  obtain ⟨sb, cap, hgv, _⟩ := h.slice (by omega)
  rw [hgv] at c1
  go_enter Try.func72, Try.ntmps72
  go_wp2
  go_ret2
  exact ⟨rfl, rfl⟩

theorem gv_shape {w : World} {rb : Nat} {R : RS} (h : Refm w rb R) : ∃ a cap, R.gv = .slice a R.L.length cap := by
  rcases h.sl.2 with ⟨q, e⟩ | ⟨g, cap, cur, hv, _⟩
  · exact ⟨none, 0, by rw [q, e]⟩
  · exact ⟨_, cap, hv⟩

set_option maxHeartbeats 1000000 in
theorem rcreateFull_any (w : World) (rb : Nat) (R : RS) (h : Refm w rb R) (hn : R.n ≤ 64) (hc : R.L.length < 4) (hf : R.free < 1) :
    Calls Try.prog 72 #[pt rb] w fun e w' => e = .returned (.tuple #[.int .i64 0, .int .i64 3]) ∧ Only Nob w w' := by
  have c1 := h.c1
  obtain ⟨sa, cap, hgv⟩ := gv_shape h
  rw [hgv] at c1
  clear hgv
  have hfb := R.free_bd hn h.many
  go_enter Try.func72, Try.ntmps72
  go_wp2_with fail
  refine (rfree_any _ rb R h hn).mono ?_
  rintro e w1 ⟨rfl, ho1⟩
  generalize R.free = fr at *
  go_wp2_with fail
  go_ret2
  exact ⟨rfl, ho1⟩

def zc126 (i : Nat) : Value := if i < 2 then .int .i64 0 else if i % 2 = 0 then .pointer none else .bool false
theorem zc126_eq : Try.zeroCells135.toList = (List.range 130).map zc126 := by kernel_rfl
theorem zc126_size : Try.zeroCells135.size = 130 := by rw [← Array.length_toList, zc126_eq]; simp
theorem zc126_at {i : Nat} (h : i < 130) : Try.zeroCells135[i]? = some (zc126 i) := by
  rw [← Array.getElem?_toList, zc126_eq, List.getElem?_map, List.getElem?_range h]; rfl
noncomputable def guestCells (n : Int) : Array Value := (Try.zeroCells135.setIfInBounds 0 (Value.int IntKind.i64 n)).setIfInBounds 1 (Value.int IntKind.i64 (-1))
theorem guestCells_at (n : Int) (gb : Nat) {i : Nat} (h : i < 130) : (guestCells n)[i]? = some ((newG n gb).cell i) := by
  simp only [guestCells, Array.getElem?_setIfInBounds]
  by_cases h1 : 1 = i
  · subst h1; simp [RG.cell, newG]
  · by_cases h0 : 0 = i
    · subst h0; simp [RG.cell, newG]
    · rw [if_neg h1, if_neg h0, zc126_at h, zc126, RG.cell, if_neg (show ¬ i < 2 by omega), if_neg (show ¬ i = 0 by omega), if_neg (show ¬ i = 1 by omega)]
      rfl

theorem owns_only {T : Nat → Prop} {w w' : World} {base : Nat} {e : TypeId} {s : Nat} {v : Value} {n : Nat} {xs : List Value} (h : w.ownsRow base e s v n xs) (o : Only T w w') (ht : ∀ b, v.ownBlock = some b → ¬ T b) : w'.ownsRow base e s v n xs := by
  refine ⟨h.1, ?_⟩
  rcases h.2 with q | ⟨g, cap, cur, hv, q1, q2, q3⟩
  · exact Or.inl q
  · refine Or.inr ⟨g, cap, cur, hv, q1, ?_, q3⟩
    have hg : v.ownBlock = some g := by rw [hv]; rfl
    rw [o.block g (h.lt g hg).2 (ht g hg)]
    exact q2

/-- The world ahead of the append. -/
noncomputable def cw (w1 : World) (rb last : Nat) : World :=
  (((w1.setCell ⟨rb, 2, none⟩ (.int .i64 (last + 1))).alloc (.cells (guestCells (last + 1)) 135)).alloc (.cells #[.pointer (some ⟨w1.heap.size, 0, none⟩)] 129)).drew

theorem cw_only (w1 : World) (rb last : Nat) : Only (One rb) w1 (cw w1 rb last) :=
  (((((Only.refl (One rb) w1).setOne 2 _).alloc _).alloc _).drew)
theorem cw_size (w1 : World) (rb last : Nat) : (cw w1 rb last).heap.size = w1.heap.size + 2 := by simp [cw]

theorem created_facts {w1 : World} {rb : Nat} {R : RS} (h : Refm w1 rb R) (hc : R.L.length < 4) {v' : Value} {w' : World}
    (o1 : w'.ownsRow 0 129 1 v' (R.L.length + 1) ((R.L.map fun g => pt g.gb) ++ [pt w1.heap.size])) (g1 : (cw w1 rb R.last).grownBy w' R.gv.ownBlock)
    (o2 : v'.ownBlock = R.gv.ownBlock ∨ v'.ownBlock = some (cw w1 rb R.last).heap.size) :
    w'.cell? ⟨rb, 1, none⟩ = some R.gv ∧ w'.frozen? ⟨rb, 1, none⟩ = false ∧ w'.cell? ⟨rb, 2, none⟩ = some (.int .i64 (R.last + 1)) ∧
    Refm (w'.setCell ⟨rb, 1, none⟩ v') rb (R.created v' w1.heap.size) ∧ Only (R.own rb) w1 (w'.setCell ⟨rb, 1, none⟩ v') := by
  have hlt := h.lt
  have hsz := cw_size w1 rb R.last
  have hco := cw_only w1 rb R.last
  have hgo : ∀ k, k < w1.heap.size + 2 → R.gv.ownBlock ≠ some k → w'.heap[k]? = (cw w1 rb R.last).heap[k]? := fun k hk hn => g1.block k (by omega) (fun e => hn e.symm)
  obtain ⟨t, r⟩ := h.row
  have r1 : (cw w1 rb R.last).rowIs rb t 4 (fun j => if j = 2 then .int .i64 (R.last + 1) else R.cell j) := ((r.set 2 _).alloc _).alloc _
  have r2 := r1.of_block (hgo rb (by omega) h.n1)
  have hn1 : v'.ownBlock ≠ some rb := by
    rcases o2 with e | e
    · rw [e]; exact h.n1
    · rw [e, hsz]; intro q; injection q with q; omega
  have hnew : ∀ b, v'.ownBlock = some b → R.gv.ownBlock = some b ∨ b = w1.heap.size + 2 := fun b hb => by
    rcases o2 with e | e
    · exact Or.inl (by rw [← e]; exact hb)
    · rw [e, hsz] at hb; injection hb with q; exact Or.inr q.symm
  refine ⟨by rw [r2.cell (by omega)]; rfl, r2.frozen 1, by rw [r2.cell (by omega)]; rfl, ?_, ?_⟩
  · have isG : ∀ b, (R.created v' w1.heap.size).isGs b → R.isGs b ∨ b = w1.heap.size := by
      rintro b ⟨g, hg, rfl⟩
      rcases List.mem_append.1 hg with q | q
      · exact Or.inl ⟨g, q, rfl⟩
      · rw [List.mem_singleton] at q; subst q; exact Or.inr rfl
    have isP : ∀ b, (R.created v' w1.heap.size).isPg b → R.isPg b := by
      rintro b ⟨g, hg, p, hp, e⟩
      rcases List.mem_append.1 hg with q | q
      · exact ⟨g, q, p, hp, e⟩
      · rw [List.mem_singleton] at q; subst q; cases e
    have old : ∀ {b : Nat} {t : TypeId} {n : Nat} {f : Nat → Value}, w1.rowIs b t n f → b ≠ rb → R.gv.ownBlock ≠ some b → (w'.setCell ⟨rb, 1, none⟩ v').rowIs b t n f := fun {b} _ _ _ r q1 q2 =>
      ((hco.row r (fun e => q1 e)).of_block (hgo b (by have := r.lt; omega) q2)).setOther q1 _
    refine ⟨⟨t, (r2.set 1 _).congr (fun j hj => ?_)⟩, ?_, fun g hg => ?_, fun b hb => ?_, hn1, fun q => ?_, fun q => h.n3 (isP _ q), fun b hb => ⟨fun q => ?_, fun q => ?_⟩, fun b hb q => ?_, ?_, ?_⟩
    · have e : j = 0 ∨ j = 1 ∨ j = 2 ∨ j = 3 := by omega
      rcases e with e | e | e | e <;> subst e <;> rfl
    · have := owns_only o1 ((Only.refl (One rb) w').setOne 1 v') (fun b hb e => hn1 (by rw [hb, show b = rb from e]))
      simpa [RS.created, newG] using this
    · rcases List.mem_append.1 hg with q | q
      · obtain ⟨t, r⟩ := h.gs g q
        exact ⟨t, old r (fun e => h.n2 ⟨g, q, e⟩) (fun e => (h.n4 _ e).1 ⟨g, q, rfl⟩)⟩
      · rw [List.mem_singleton] at q
        subst q
        have ra := World.rowIs_alloc (w1.setCell ⟨rb, 2, none⟩ (.int .i64 (R.last + 1))) (guestCells (R.last + 1)) 135 ((newG (R.last + 1) w1.heap.size).cell) (fun i hi => by
          have hi : i < 130 := by simpa [guestCells, zc126_size] using hi
          exact guestCells_at _ _ hi)
        rw [World.size_setCell, show (guestCells (R.last + 1)).size = 130 by simp [guestCells]] at ra
        have rb2 : (cw w1 rb R.last).rowIs w1.heap.size 135 130 ((newG (R.last + 1) w1.heap.size).cell) := ra.alloc _
        refine ⟨135, (rb2.of_block (hgo w1.heap.size (by omega) (fun e => ?_))).setOther (show w1.heap.size ≠ rb by omega) _⟩
        have := (h.sl.lt _ e).2
        omega
    · have hb := isP b hb
      obtain ⟨t, r⟩ := h.ps b hb
      exact ⟨t, old r (fun e => h.n3 (by rw [← e]; exact hb)) (fun e => (h.n4 _ e).2 hb)⟩
    · rcases isG _ q with q | q
      · exact h.n2 q
      · omega
    · rcases hnew b hb with e | e <;> rcases isG _ q with q | q
      · exact (h.n4 b e).1 q
      · have := (h.sl.lt b e).2; omega
      · have := isGs_lt h q; omega
      · omega
    · have q := isP _ q
      rcases hnew b hb with e | e
      · exact (h.n4 b e).2 q
      · have := isPg_lt h q; omega
    · have q := isP _ q
      rcases isG _ hb with e | e
      · exact h.n5 b e q
      · have := isPg_lt h q; omega
    · show ((R.L ++ [newG (R.last + 1) w1.heap.size]).map fun g => g.gb).Nodup
      rw [List.map_append, List.nodup_append]
      refine ⟨h.nd, by simp, fun a ha b hb e => ?_⟩
      rw [List.mem_map] at ha
      obtain ⟨g, hg, rfl⟩ := ha
      have := isGs_lt h ⟨g, hg, rfl⟩
      simp [newG] at hb
      omega
    · show (R.L ++ [_]).length ≤ 4
      simp; omega
  · have q1 : Only (R.own rb) w1 (cw w1 rb R.last) := hco.mono (fun k _ e => Or.inl e)
    have q2 : Only (fun b => R.gv.ownBlock = some b) (cw w1 rb R.last) w' := ⟨g1.os, g1.tape, g1.output, g1.size, fun k hk hn => g1.block k hk (fun e => hn e.symm)⟩
    exact (q1.after q2 (fun b _ e => Or.inr (Or.inl e))).setCell (p := ⟨rb, 1, none⟩) (fun _ => Or.inl rfl) _

theorem created_own {R : RS} {rb : Nat} {v : Value} {gb n : Nat} (hv : v.ownBlock = R.gv.ownBlock ∨ ∃ k, v.ownBlock = some k ∧ n ≤ k) (hg : n ≤ gb) (b : Nat) (h : (R.created v gb).own rb b) : R.own rb b ∨ n ≤ b := by
  rcases h with h | h | ⟨g, q, rfl⟩ | ⟨g, q, p, hp, e⟩
  · exact Or.inl (Or.inl h)
  · rcases hv with e | ⟨k, e, hk⟩
    · exact Or.inl (Or.inr (Or.inl (by rw [← e]; exact h)))
    · have h : v.ownBlock = some b := h
      rw [e] at h; injection h with h; exact Or.inr (by omega)
  · rcases List.mem_append.1 q with q | q
    · exact Or.inl (Or.inr (Or.inr (Or.inl ⟨g, q, rfl⟩)))
    · rw [List.mem_singleton] at q; subst q; exact Or.inr hg
  · rcases List.mem_append.1 q with q | q
    · exact Or.inl (Or.inr (Or.inr (Or.inr ⟨g, q, p, hp, e⟩)))
    · rw [List.mem_singleton] at q; subst q; cases e

theorem owns_pos {w : World} {base : Nat} {e : TypeId} {s : Nat} {v : Value} {n : Nat} {xs : List Value} (h : w.ownsRow base e s v (n + 1) xs) : ∃ sb cp, v = .slice (some ⟨sb, 0, none⟩) (n + 1) cp := by
  rcases h.2 with ⟨_, q⟩ | ⟨g, cap, cur, hv, _⟩
  · omega
  · exact ⟨g, cap, hv⟩

set_option maxRecDepth 100000 in
set_option maxHeartbeats 4000000 in
theorem rcreateGood_any (w : World) (rb : Nat) (R : RS) (h : Refm w rb R) (hn : R.n ≤ 64) (hl : R.last < 1000000000000000000) (hc : R.L.length < 4) (hf : ¬ R.free < 1) :
    Calls Try.prog 72 #[pt rb] w fun e w' => ∃ v gb, e = .returned (.tuple #[.int .i64 (R.last + 1), .int .i64 0]) ∧ w.heap.size ≤ gb ∧ Refm w' rb (R.created v gb) ∧ Only (R.own rb) w w' ∧ (∀ b, (R.created v gb).own rb b → R.own rb b ∨ w.heap.size ≤ b) := by
  obtain ⟨i0, hi, hzz⟩ := Option.map_eq_some_iff.1 ptr_info
  simp only [Prod.mk.injEq] at hzz
  obtain ⟨hz0, hz1, hz2⟩ := hzz
  have HI := hid (And.intro hi (And.intro hz0 (And.intro hz1 hz2)))
  clear hi hz0 hz1 hz2
  have hfb := R.free_bd hn h.many
  obtain ⟨sa, cap, hgv⟩ := gv_shape h
  have c1 := h.c1
  rw [hgv] at c1
  have HG := hid hgv
  clear hgv
  go_enter Try.func72, Try.ntmps72
  go_wp2_with fail
  refine (rfree_any _ rb R h hn).mono ?_
  rintro e w1 ⟨rfl, ho1⟩
  have hR1 := h.nob ho1
  have d1 := hR1.c1
  rw [HG.out] at d1
  have d2 := hR1.c2
  have f2 := hR1.fz 2
  have f1 := hR1.fz 1
  have hrlt := hR1.lt
  have OW : Hid ((cw w1 rb R.last).ownsRow 0 129 1 (.slice sa R.L.length cap) R.L.length (R.L.map fun g => pt g.gb)) := by
    have := owns_only hR1.sl (cw_only w1 rb R.last) (fun b hb e => hR1.n1 (by rw [hb, show b = rb from e]))
    rw [HG.out] at this
    exact this
  have HN : Hid (∀ (j : Nat) (u : Value), [pt w1.heap.size][j]? = some u → (cw w1 rb R.last).cell? ((⟨w1.heap.size + 1, 0, none⟩ : Addr).add j) = some u) := by
    intro j u hj
    rcases j with _ | j
    · simp at hj
      subst hj
      have q := Only.laidD (w := (w1.setCell ⟨rb, 2, none⟩ (.int .i64 (R.last + 1))).alloc (.cells (guestCells (R.last + 1)) 135)) (c := #[.pointer (some ⟨w1.heap.size, 0, none⟩)]) (t := 129) (Only.refl Nob _) (fun q => q) 0
      rw [show ((w1.setCell ⟨rb, 2, none⟩ (.int .i64 (R.last + 1))).alloc (.cells (guestCells (R.last + 1)) 135)).heap.size = w1.heap.size + 1 by simp] at q
      exact q
    · simp at hj
  have H1 : Hid (∀ u ∈ [pt w1.heap.size], u.oneCell' = true) := by
    intro u hu
    rw [List.mem_singleton] at hu
    subst hu
    rfl
  generalize R.free = fr at *
  go_wp2_with fail
  go_region_law  (refine step_append_own (w := cw w1 rb R.last) rfl (.tmp 26) (.tmp 33) 126 rfl 0 129 i0 (.pointer none) 1 8 Try.underlying126 HI.out.1 HI.out.2.1 HI.out.2.2.1 HI.out.2.2.2 rfl (by omega) (.slice sa R.L.length cap) R.L.length (R.L.map fun g => pt g.gb) rfl OW.out ⟨w1.heap.size + 1, 0, none⟩ 1 1 [pt w1.heap.size] rfl rfl HN.out H1.out (by simp only [maxLen]; omega) (by omega) (by omega) ?_
                  intro v' w' o1 g1 o2
                  obtain ⟨sb, cp, rfl⟩ := owns_pos o1
                  rw [← HG.out] at g1 o2
                  obtain ⟨x1, x2, x3, x4, x5⟩ := created_facts hR1 hc o1 g1 o2
                  rw [HG.out] at x1
                  have X4 := hid x4
                  have X5 := hid x5
                  have G1 := hid g1
                  have O2 := hid o2
                  clear x4 x5 o1 g1 o2)
  all_goals
    go_wp2
    go_ret2
    refine ⟨_, w1.heap.size, rfl, ho1.size, X4.out, (ho1.of_nob (S := R.own rb)).trans X5.out, created_own ?_ ho1.size⟩
    rcases O2.out with e | e
    · exact Or.inl e
    · refine Or.inr ⟨_, e, ?_⟩
      rw [cw_size]
      have := ho1.size
      omega
end Go.Proofs.Ytelilndinnemcaa
