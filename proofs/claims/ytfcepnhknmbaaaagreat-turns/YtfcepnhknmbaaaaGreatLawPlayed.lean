/- The law's walk: played: every step of the two scripts. -/
import Derived.Test.YtfcepnhknmbaaaaGreatLawStepB
import Derived.Test.YtfcepnhknmbaaaaGreatLawStepC
import Derived.Test.YtfcepnhknmbaaaaGreatLawStepD
namespace Go.Proofs.YtfcepnhknmbaaaaGreat
open Go.RowKit Go.Deep

theorem step_any (w : World) (wb : Nat) (gv S0 : Value) (D : List Mc) (c : Nat) (h : Plays w wb gv S0 D c) (hc : c < big) (k on a b cc d : Int) (W : Bool) (S : Value) (k12 : k ≤ 12) (hon : In64 on) (ha : In64 a) (hcc : In64 cc) :
    Calls Tryz.prog 8 #[pt wb, opV k on a b cc d W S] w fun e w' => ∃ gv' D', e = .returned (.bool true) ∧ Plays w' wb gv' S0 D' (c + 1) ∧ Left w w' (pOwn wb gv D) (pOwn wb gv' D') := by
  by_cases e1 : k = 1
  · subst e1
    exact stepNew_any w wb gv S0 D c h on a b cc d W S
  by_cases e2 : D.length = 0
  · exact stepNone_any w wb gv S0 D c h on a b cc d W S k e1 e2
  by_cases e3 : k ≤ 0
  · exact stepElse_any w wb gv S0 D c h on a b cc d W S k e3 hon e2
  by_cases e4 : k ≤ 6
  · exact stepHolds_any w wb gv S0 D c h on a b cc d W S k (by omega) e4 hon ha hc e2
  by_cases e5 : k = 7
  · subst e5
    exact stepReads7_any w wb gv S0 D c h on a b cc d W S hon ha hc e2
  by_cases e6 : k = 8
  · subst e6
    exact stepReads8_any w wb gv S0 D c h on a b cc d W S hon ha hc e2
  · exact stepTurns_any w wb gv S0 D c h on a b cc d W S k (by omega) k12 hon ha hcc hc e2

/-- A step as data. -/
structure OpD where
  k : Int
  on : Int
  a : Int
  b : Int
  c : Int
  d : Int
  W : Bool
  S : Value

/-- A step lies at a place. -/
structure OpAt (w : World) (bb oo : Nat) (o : OpD) : Prop where
  c0 : w.cell? ⟨bb, oo, none⟩ = some (.int .i64 o.k)
  c1 : w.cell? ⟨bb, oo + 1, none⟩ = some (.int .i64 o.on)
  c2 : w.cell? ⟨bb, oo + 2, none⟩ = some (.int .i64 o.a)
  c3 : w.cell? ⟨bb, oo + 3, none⟩ = some (.int .i64 o.b)
  c4 : w.cell? ⟨bb, oo + 4, none⟩ = some (.int .i64 o.c)
  c5 : w.cell? ⟨bb, oo + 5, none⟩ = some (.int .i64 o.d)
  c6 : w.cell? ⟨bb, oo + 6, none⟩ = some (.bool o.W)
  c7 : w.cell? ⟨bb, oo + 7, none⟩ = some o.S
  on64 : In64 o.on
  a64 : In64 o.a
  c64 : In64 o.c

theorem OpAt.only {w w' : World} {T : Nat → Prop} {bb oo : Nat} {o : OpD} (h : OpAt w bb oo o) (q : Only T w w') (hb : ¬ T bb) : OpAt w' bb oo o :=
  ⟨q.keep hb h.c0, q.keep hb h.c1, q.keep hb h.c2, q.keep hb h.c3, q.keep hb h.c4, q.keep hb h.c5, q.keep hb h.c6, q.keep hb h.c7, h.on64, h.a64, h.c64⟩

def noB : Value := .string { data := #[] }
def firstL : List OpD := [⟨1, 0, 12, 0, 0, 0, false, noB⟩, ⟨3, 0, 0, 0, 0, 0, false, noB⟩, ⟨5, 0, 1, 9, 0, 0, true, noB⟩, ⟨2, 0, 0, 0, 0, 0, false, noB⟩, ⟨5, 0, 1, 10, 0, 0, false, noB⟩, ⟨6, 0, 1, 10, 0, 0, false, noB⟩, ⟨8, 0, 1, 75, 7, 0, false, noB⟩, ⟨7, 0, 1, 75, 0, 0, false, noB⟩, ⟨9, 0, 1, 9, 1, 0, true, noB⟩, ⟨11, 0, 1, 3, 0, 0, false, noB⟩, ⟨12, 0, 1, 3, 8, 0, false, noB⟩, ⟨10, 0, 1, 0, 0, 0, false, noB⟩, ⟨13, 0, 1, 0, 0, 0, false, noB⟩, ⟨14, 0, 0, 0, 0, 0, false, noB⟩, ⟨15, 0, 0, 0, 0, 0, false, noB⟩]
def opFlat : List OpD → List Value
  | [] => []
  | o :: L => .int .i64 o.k :: .int .i64 o.on :: .int .i64 o.a :: .int .i64 o.b :: .int .i64 o.c :: .int .i64 o.d :: .bool o.W :: o.S :: opFlat L
def firstC : Array Value := (opFlat firstL).toArray

theorem opFlat_at : ∀ {L : List OpD} {i : Nat} {o : OpD}, L[i]? = some o → (opFlat L)[i * 8]? = some (.int .i64 o.k) ∧ (opFlat L)[i * 8 + 1]? = some (.int .i64 o.on) ∧ (opFlat L)[i * 8 + 2]? = some (.int .i64 o.a) ∧ (opFlat L)[i * 8 + 3]? = some (.int .i64 o.b) ∧ (opFlat L)[i * 8 + 4]? = some (.int .i64 o.c) ∧ (opFlat L)[i * 8 + 5]? = some (.int .i64 o.d) ∧ (opFlat L)[i * 8 + 6]? = some (.bool o.W) ∧ (opFlat L)[i * 8 + 7]? = some o.S
  | y :: L, 0, x, h => by
    simp only [List.getElem?_cons_zero, Option.some.injEq] at h
    subst h
    exact ⟨rfl, rfl, rfl, rfl, rfl, rfl, rfl, rfl⟩
  | y :: L, i + 1, x, h => by
    rw [List.getElem?_cons_succ] at h
    have := opFlat_at h
    rw [show (i + 1) * 8 = i * 8 + 8 by omega]
    simpa [opFlat] using this

theorem first_bd : ∀ o ∈ firstL, (0 ≤ o.on ∧ o.on ≤ 100) ∧ (0 ≤ o.a ∧ o.a ≤ 100) ∧ 0 ≤ o.c ∧ o.c ≤ 100 := by decide
theorem firstL_len : firstL.length = 15 := rfl

theorem first_at {w : World} {i : Nat} (hi : i < 15) : OpAt ((w.alloc (.cells #[.slice none 0 0, noB] 28)).alloc (.cells firstC 30)) (w.heap.size + 1) (i * 8) (firstL[i]'(by rw [firstL_len]; exact hi)) := by
  have hq : ∀ j, ((w.alloc (.cells #[.slice none 0 0, noB] 28)).alloc (.cells firstC 30)).cell? ⟨w.heap.size + 1, j, none⟩ = (opFlat firstL)[j]? := fun j => by
    have q := Only.laid (w := w.alloc (.cells #[.slice none 0 0, noB] 28)) (c := firstC) (t := 30) (Only.refl Nob _) (fun q => q) j
    rw [World.size_alloc] at q
    rw [q, firstC, List.getElem?_toArray]
  obtain ⟨h0, h1, h2, h3, h4, h5, h6, h7⟩ := opFlat_at (List.getElem?_eq_getElem (l := firstL) (i := i) (by rw [firstL_len]; exact hi))
  have hb := first_bd (firstL[i]'(by rw [firstL_len]; exact hi)) (List.getElem_mem _)
  exact ⟨by rw [hq, h0], by rw [hq, h1], by rw [hq, h2], by rw [hq, h3], by rw [hq, h4], by rw [hq, h5], by rw [hq, h6], by rw [hq, h7], ⟨by omega, by omega⟩, ⟨by omega, by omega⟩, ⟨by omega, by omega⟩⟩

structure Runs (w wr : World) (wb fb : Nat) (gv : Value) (D : List Mc) (c : Nat) : Prop where
  plays : Plays wr wb gv noB D c
  new : ∀ b, pOwn wb gv D b → w.heap.size ≤ b ∧ b ≠ fb
  only : Only Nob w wr
  fl : fb < wr.heap.size
  first : ∀ i, (hi : i < 15) → OpAt wr fb (i * 8) (firstL[i]'(by rw [firstL_len]; exact hi))

theorem Runs.step {w wr w' : World} {wb fb c : Nat} {gv gv' : Value} {D D' : List Mc} (h : Runs w wr wb fb gv D c) (hp : Plays w' wb gv' noB D' (c + 1)) (hl : Left wr w' (pOwn wb gv D) (pOwn wb gv' D')) : Runs w w' wb fb gv' D' (c + 1) := by
  have hs := h.only.size
  refine ⟨hp, fun b hb => ?_, ?_, Nat.lt_of_lt_of_le h.fl hl.only.size, fun i hi => (h.first i hi).only hl.only (fun q => (h.new fb q).2 rfl)⟩
  · rcases hl.ext b hb with q | q
    · exact h.new b q
    · exact ⟨by omega, by have := h.fl; omega⟩
  · exact h.only.after hl.only (fun b hb q => by have := (h.new b q).1; omega)
theorem Runs.mono {w wr : World} {wb fb c c' : Nat} {gv : Value} {D : List Mc} (h : Runs w wr wb fb gv D c) (hc : c ≤ c') : Runs w wr wb fb gv D c' := ⟨h.plays.mono hc, h.new, h.only, h.fl, h.first⟩

theorem Runs.start (w : World) : Runs w ((w.alloc (.cells #[.slice none 0 0, noB] 28)).alloc (.cells firstC 30)) w.heap.size (w.heap.size + 1) (.slice none 0 0) [] 0 := by
  have r := World.rowIs_alloc w #[.slice none 0 0, noB] 28 (wldCell (.slice none 0 0) noB) (fun i hi => by
    have hi : i < 2 := hi
    have e : i = 0 ∨ i = 1 := by omega
    rcases e with e | e <;> subst e <;> rfl)
  refine ⟨⟨⟨28, r.alloc _⟩, World.ownsRow_nil _ _ _ _, fun x hx => (by cases hx), fun x hx => (by cases hx), by simp [Value.ownBlock], List.Pairwise.nil, by simp⟩, fun b hb => ?_, ((Only.refl Nob w).alloc _).alloc _, by simp, fun i hi => first_at hi⟩
  rcases hb with rfl | q | ⟨x, hx, _⟩
  · exact ⟨Nat.le_refl _, by omega⟩
  · simp [Value.ownBlock] at q
  · cases hx

set_option maxRecDepth 100000 in
set_option maxHeartbeats 4000000 in
theorem played_any (w : World) (sa : Option Addr) (len cap : Nat) (O : Nat → OpD) (last : Int) (hlast : last ≤ 12) (hlen : len ≤ 10000000000000)
    (hS : ∀ j, j < len → ∃ bb oo, sa = some ⟨bb, oo, none⟩ ∧ OpAt w bb (oo + j * 8) (O j)) :
    Calls Tryz.prog 7 #[.slice sa len cap, .int .i64 last] w fun e w' => e = .returned (.bool true) ∧ Below w.heap.size w w' := by
  have HS := hid hS
  clear hS
  go_enter Tryz.func7, Tryz.ntmps7
  go_wp2_with fail
  go_loopw [7, 8] (fun s7 s8 wr => s7 = .bool true ∧ ∃ (i : Nat) (gv : Value) (D : List Mc), i ≤ 15 ∧ s8 = .int .i64 i ∧ Runs w wr w.heap.size (w.heap.size + 1) gv D i) (fun _ s8 _ => 15 - (intOf s8).toNat)
  case atStart => exact ⟨rfl, 0, .slice none 0 0, [], by omega, rfl, Runs.start w⟩
  case round =>
    rename World => wr
    obtain ⟨rfl, i, gv, D, hi, rfl, hR⟩ := hrel
    by_cases hlt : i < 15
    · have hO := hR.first i hlt
      have HR := hid hR
      clear hR
      obtain ⟨o, ho⟩ : ∃ o, o = firstL[i]'(by rw [firstL_len]; exact hlt) := ⟨_, rfl⟩
      rw [← ho] at hO
      clear ho
      obtain ⟨c0, c1, c2, c3, c4, c5, c6, c7, on64, a64, c64⟩ := hO
      by_cases hk : o.k ≤ last
      · go_wp2_with fail
        refine (step_any _ _ gv noB D i HR.out.plays (by unfold big; omega) o.k o.on o.a o.b o.c o.d o.W o.S (by omega) on64 a64 c64).mono ?_
        rintro e w2 ⟨gv', D', rfl, hP, hL⟩
        have HR2 := hid (HR.out.step hP hL)
        clear hP hL
        go_wp2
        go_roundw
        case rel => exact ⟨rfl, i + 1, gv', D', by omega, by go_num, HR2.out⟩
        case measure => simp [intOf]; omega
      · go_wp2
        go_roundw
        case rel => exact ⟨rfl, i + 1, gv, D, by omega, by go_num, HR.out.mono (Nat.le_succ i)⟩
        case measure => simp [intOf]; omega
    · have HR := hid hR
      clear hR
      have hi15 : ¬ (i : Int) < 15 := by omega
      go_wp2
      go_loopw [7, 9] (fun s7 s9 wx => s7 = .bool true ∧ ∃ (j : Nat) (gv : Value) (D : List Mc), j ≤ len ∧ s9 = .int .i64 j ∧ Runs w wx w.heap.size (w.heap.size + 1) gv D (i + j)) (fun _ s9 _ => len - (intOf s9).toNat)
      case atStart => exact ⟨rfl, 0, gv, D, by omega, rfl, HR.out⟩
      case round =>
        clear HR
        rename World => wx
        obtain ⟨rfl, j, gv, D, hj, rfl, hR⟩ := hrel
        by_cases hlt2 : j < len
        · obtain ⟨bb, oo, rfl, hO⟩ := HS.out j hlt2
          have hO := hO.only hR.only (fun q => q)
          have HR := hid hR
          clear hR
          have hj2 : (j : Int) < (len : Int) := by omega
          generalize O j = o at *
          obtain ⟨c0, c1, c2, c3, c4, c5, c6, c7, on64, a64, c64⟩ := hO
          by_cases hk : o.k ≤ last
          · go_wp2_with fail
            refine (step_any _ _ gv noB D (i + j) HR.out.plays (by unfold big; omega) o.k o.on o.a o.b o.c o.d o.W o.S (by omega) on64 a64 c64).mono ?_
            rintro e w2 ⟨gv', D', rfl, hP, hL⟩
            have HR2 := hid (HR.out.step hP hL)
            clear hP hL
            go_wp2
            go_roundw
            case rel => exact ⟨rfl, j + 1, gv', D', by omega, by go_num, HR2.out⟩
            case measure => simp [intOf]; omega
          · go_wp2
            go_roundw
            case rel => exact ⟨rfl, j + 1, gv, D, by omega, by go_num, HR.out.mono (by omega)⟩
            case measure => simp [intOf]; omega
        · have HR := hid hR
          clear hR
          have hj2 : ¬ (j : Int) < (len : Int) := by omega
          go_wp2
          go_ret
          exact ⟨rfl, HR.out.only.below (fun _ _ q => q)⟩
end Go.Proofs.YtfcepnhknmbaaaaGreat
