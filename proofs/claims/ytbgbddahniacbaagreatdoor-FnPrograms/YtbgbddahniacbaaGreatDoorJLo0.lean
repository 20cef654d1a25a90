/- The contract of the program's line of a class, as numbers. -/
import Derived.Test.YtbgbddahniacbaaGreatDoorJSh3
import Derived.Deep.CutRange
import Derived.Test.YtbgbddahniacbaaGreatDoorJIRow0
import Derived.Test.YtbgbddahniacbaaGreatDoorJPg0
namespace Go.Proofs.YtbgbddahniacbaaGreatDoor
namespace Pg
open Go.ChangeShapes Go.WideShapes Go.ChangeAt Go.RowKit St

theorem stepGrow (w : World) {ops : Array Oper} {o : Oper} {a : Act} {K : Act → World → Prop} {Q : Exit → Act → World → Prop} {E : Prop} (hgd : o.guard = none) (s x : Operand)
    (ho : o.op = .call { callee := .builtin .append, args := #[s, x], argTypes := #[29, 29] })
    (B : Nat) (v : Value) (l : List Int) (hs : a.eval s = v) (hg : Grow B w v l) (hB : B ≤ w.heap.size)
    (z : Option Addr) (c B' : Nat) (r : List Int) (hx : a.eval x = .slice z r.length c) (hr : SI true B' w (.slice z r.length c) r) (hlen : l.length + r.length ≤ 1000)
    (h : ∀ v' w', Grow B w' v' (l ++ r) → Kept B w w' → K (a.put o.dst v') w') : if Region.wanted o (yielded ops a.tmps) = true then Oper.wp Tryz.prog o a w K Q else E := by
  obtain ⟨i0, hif, hz0, hz1, hz2⟩ := info_parts infoN
  cases z with
  | none =>
    obtain ⟨rfl, hn, rfl⟩ := SI.none_nil hr rfl
    refine stepAppNone w hgd s x 29 ho B 2 i0 1 Tryz.underlying29 hif v l.length (nums l) hs hg.1 hx ?_
    exact h v w (by rw [List.append_nil]; exact hg) (Kept.refl _ _)
  | some ad =>
    refine stepApp w hgd s x 29 ho B 2 i0 (.int .i64 0) 1 8 Tryz.underlying29 hif hz0 hz1 hz2 rfl (by decide) v l.length (nums l) hs hg.1 ad r.length c (nums r) hx (by rw [nums_length, Nat.mul_one]) (SI.nums hr) (nums_one r) (by unfold maxLen; omega) (by omega) hB ?_
    intro v' w' hown hgrow hnil
    refine h v' w' ⟨?_, ?_⟩ (kept_grown hB hg.1 hgrow)
    · rw [List.length_append, nums_app]; exact hown
    · intro e; exact hg.2 (hnil.1 e).1
theorem lit1_si (u : World) (x : Int) : SI true u.heap.size (u.alloc (.cells #[.int .i64 x] 2)) (.slice (some ⟨u.heap.size, 0, none⟩) [x].length 1) [x] := (grow_lit1 u x).gint.si
theorem lit2_si (u : World) (x y : Int) : SI true u.heap.size (u.alloc (.cells #[.int .i64 x, .int .i64 y] 2)) (.slice (some ⟨u.heap.size, 0, none⟩) [x, y].length 2) [x, y] := (grow_lit2 u x y).gint.si

set_option maxRecDepth 100000 in
set_option maxHeartbeats 2000000 in
theorem headOf_at (B : Nat) (c : Cls) (z1 z2 : Option Addr) (t1 t2 : Nat) (hf : FewC c) (w : World) (hi : SI true B w (.slice z1 c.fields.length t1) c.fields) (hm : SM front B w (.slice z2 c.meths.length t2) c.meths) :
    Calls Tryz.prog 28 #[.agg #[.int .i64 c.super, .slice z1 c.fields.length t1, .slice z2 c.meths.length t2]] w fun e w' => ∃ v, e = .returned v ∧ Grow w.heap.size w' v (headL c c.meths.length) ∧ Below w.heap.size w w' := by
  have HF : Hid (FewC c) := hf
  have hfl := hf.flen
  have hml := hf.mlen
  have HI : Hid (SI true B w (.slice z1 c.fields.length t1) c.fields) := hi
  have HM : Hid (SM front B w (.slice z2 c.meths.length t2) c.meths) := hm
  clear hi hm hf
  obtain ⟨W, hW⟩ : ∃ W, W = w.alloc (.cells #[.int .i64 c.super, .slice z1 c.fields.length t1, .slice z2 c.meths.length t2] 45) := ⟨_, rfl⟩
  have hwW : Below w.heap.size w W := by rw [hW]; exact allocBelow _ _
  have hWs : W.heap.size = w.heap.size + 1 := by rw [hW]; simp
  have HBX : Hid (BoxT W w.heap.size 45 #[.int .i64 c.super, .slice z1 c.fields.length t1, .slice z2 c.meths.length t2]) := by rw [hW]; exact BoxT.new _ _ _
  have k0 : W.cell? ⟨w.heap.size, 0, none⟩ = some (.int .i64 c.super) := HBX.out.cell (i := 0) rfl
  have k1 : W.cell? ⟨w.heap.size, 1, none⟩ = some (.slice z1 c.fields.length t1) := HBX.out.cell (i := 1) rfl
  have j0 : (World.alloc W.drew (.cells #[.int .i64 c.super] 2)).cell? ⟨w.heap.size, 1, none⟩ = some (.slice z1 c.fields.length t1) := (HBX.out.on ((Below.refl _ _).drew.alloc (Nat.le_refl _) _)).cell (i := 1) rfl
  have HL1 : Hid (Grow w.heap.size (World.alloc W.drew (.cells #[.int .i64 c.super] 2)) (.slice (some ⟨w.heap.size + 1, 0, none⟩) 1 1) [c.super]) := by
    have h := grow_lit1 W.drew c.super
    have e : W.drew.heap.size = w.heap.size + 1 := hWs
    rw [e] at h
    exact growBase h (by omega)
  go_enter Tryz.func28, Tryz.ntmps28
  go_wp2_with fail
  rw [← hW]
  clear hW
  go_cut [3] from 6 to 21 (fun v u => ∃ v0, v0 = v ∧ Hid (Grow w.heap.size u v0 (headL0 c)) ∧ Kept w.heap.size W u)
  case first =>
    go_region_law (first
      | (refine stepGrow _ rfl (.tmp 8) (.tmp 11) rfl w.heap.size (.slice (some ⟨w.heap.size + 1, 0, none⟩) 1 1) [c.super] (by simp [Act.eval]) (growOn HL1.out hb1) (by have := hb1.size; simp at this; omega) (some ⟨g1, 0, none⟩) d1 0 ((c.fields.length : Int) :: c.fields) (by simp [Act.eval]) (SI.weak hg1.out.gint.si (Nat.zero_le _)) (by simp; omega) ?_; intro v2 w2 hg2 hk2; have HG2 : Hid (Grow w.heap.size w2 v2 (headL0 c)) := hg2; have HK2 : Hid (Kept w.heap.size W w2) := (Kept.of (below_over ((Below.refl _ _).drew.alloc (Nat.le_refl _) _) hb1) (by omega)).trans hk2; clear hg2 hk2; dsimp only)
      | (refine stepGrow _ rfl (.tmp 8) (.tmp 11) rfl w.heap.size (.slice (some ⟨w1.heap.size, 0, none⟩) 1 1) [c.super] (by simp [Act.eval]) (growBase (grow_lit1 w1 c.super) (by have := hb1.size; simp at this; omega)) (by have := hb1.size; simp at this; simp; omega) (some ⟨g1, 0, none⟩) d1 0 ((c.fields.length : Int) :: c.fields) (by simp [Act.eval]) (SI.weak (growOn hg1.out (allocBelow _ _)).gint.si (Nat.zero_le _)) (by simp; omega) ?_; intro v2 w2 hg2 hk2; have HG2 : Hid (Grow w.heap.size w2 v2 (headL0 c)) := hg2; have HK2 : Hid (Kept w.heap.size W w2) := (Kept.of (below_over (below_over (Below.refl _ _).drew hb1) (allocBelow _ _)) (by omega)).trans hk2; clear hg2 hk2; dsimp only)
      | (go_simp; go_at_call 52; refine (counted_at B z1 t1 c.fields (by omega) _ (SI.on HI.out (Keep.of (below_over hwW (Below.refl _ _).drew)))).mono ?_; rintro e w1 ⟨v1, rfl, hg1', hb1⟩; have hg1 : Hid (Grow _ w1 v1 ((c.fields.length : Int) :: c.fields)) := hg1'; clear hg1'; obtain ⟨g1, d1, rfl⟩ := growForm hg1.out; have k0' : w1.cell? ⟨w.heap.size, 0, none⟩ = some (.int .i64 c.super) := (HBX.out.on (below_over (Below.refl _ _).drew hb1)).cell (i := 0) rfl; dsimp only)
      | (go_simp; go_at_call 52; refine (counted_at B z1 t1 c.fields (by omega) _ (SI.on HI.out (Keep.of (below_over hwW ((Below.refl _ _).drew.alloc (Nat.le_refl _) _))))).mono ?_; rintro e w1 ⟨v1, rfl, hg1', hb1⟩; have hg1 : Hid (Grow _ w1 v1 ((c.fields.length : Int) :: c.fields)) := hg1'; clear hg1'; obtain ⟨g1, d1, rfl⟩ := growForm hg1.out; dsimp only))
    all_goals
      go_wp2_with fail
      go_meet
      exact ⟨_, rfl, HG2.out, HK2.out⟩
  case rest =>
    obtain ⟨v0, rfl, hg0, hk0⟩ := hcut
    have hB0 : Below w.heap.size w wc := hwW.trans hk0.below
    have hsz0 : w.heap.size ≤ wc.heap.size := hB0.size
    have m0 : wc.cell? ⟨w.heap.size, 2, none⟩ = some (.slice z2 c.meths.length t2) := (hk0.box _ _ _ (by decide) HBX.out).cell (i := 2) rfl
    obtain ⟨g0, e0, rfl⟩ := growForm hg0.out
    clear k0 k1 j0 HL1
    go_wp2_with (at_builtin; refine wpList_grow rfl _ _ rfl w.heap.size _ _ rfl (growOn hg0.out (allocBelow _ _)) (by simp; omega) (some ⟨wc.heap.size, 0, none⟩) 1 0 [(c.meths.length : Int)] rfl (SI.weak (lit1_si wc _) (Nat.zero_le _)) (by simp [headL0]; omega) ?_)
    intro v1 w1 hg1 hk1
    have hkk1 : Kept w.heap.size W w1 := (hk0.alloc (by omega) _).trans hk1
    have HG1 : Hid (Grow w.heap.size w1 v1 (headL c 0)) := by
      have e : headL c 0 = headL0 c ++ [(c.meths.length : Int)] := by simp [headL, headL0]
      show Grow _ _ _ _
      rw [e]
      exact hg1
    have m1 : w1.cell? ⟨w.heap.size, 2, none⟩ = some (.slice z2 c.meths.length t2) := (hkk1.box _ _ _ (by decide) HBX.out).cell (i := 2) rfl
    clear hg1 hk1 hg0 hk0 hB0 hsz0 m0
    go_wp2
    go_loopw [3, 22] (fun v i wr => ∃ (k : Nat) (v0 : Value), k ≤ c.meths.length ∧ i = .int .i64 k ∧ v0 = v ∧ Hid (Grow w.heap.size wr v0 (headL c k)) ∧ Kept w.heap.size W wr) (fun _ i _ => c.meths.length - (intOf i).toNat)
    case atStart => exact ⟨0, _, Nat.zero_le _, rfl, rfl, HG1.out, hkk1⟩
    case round =>
      obtain ⟨k, v, hk, rfl, rfl, hg, hkp⟩ := hrel
      clear HG1 hkk1 m1
      have hbw : Below w.heap.size w wr := hwW.trans hkp.below
      have hws := hbw.size
      by_cases hlt : k < c.meths.length
      · obtain ⟨b, o, rfl, _, va, vc, d0, d1, d2, d3, hmv⟩ := HM.out.get hlt
        have l0 : b < w.heap.size := cell_lt d0
        have d0 := (hbw.cell l0).trans d0
        have d1 := (hbw.cell l0).trans d1
        have d2 := (hbw.cell l0).trans d2
        have d3 := (hbw.cell l0).trans d3
        obtain ⟨x1, y1, rfl⟩ := hmv.1.form
        obtain ⟨x2, y2, rfl⟩ := front.form hmv.2
        have HSA : Hid (SI true B w (.slice x1 c.meths[k].args.length y1) c.meths[k].args) := hmv.1
        have HST : Hid (headL c (k + 1) = headL c k ++ mtL c.meths[k]) := headL_step hlt
        have hal := HF.out.args _ (List.getElem_mem hlt)
        have hhl := headL_len HF.out.flen HF.out.args k hk
        have hki : (k : Int) < (c.meths.length : Int) := by omega
        generalize c.meths[k] = m at *
        obtain ⟨gv, cv, rfl⟩ := growForm hg.out
        have HBM : Hid (BoxT (wr.alloc (.cells #[.int .i64 m.name, .slice x1 m.args.length y1, .int .i64 m.gives, .slice x2 m.code.length y2] 35)) wr.heap.size 35 #[.int .i64 m.name, .slice x1 m.args.length y1, .int .i64 m.gives, .slice x2 m.code.length y2]) := BoxT.new _ _ _
        have HGX : Hid (Grow w.heap.size (wr.alloc (.cells #[.int .i64 m.name, .slice x1 m.args.length y1, .int .i64 m.gives, .slice x2 m.code.length y2] 35)) (.slice (some ⟨gv, 0, none⟩) (headL c k).length cv) (headL c k)) := growOn hg.out (allocBelow _ _)
        have hkX : Kept w.heap.size W (wr.alloc (.cells #[.int .i64 m.name, .slice x1 m.args.length y1, .int .i64 m.gives, .slice x2 m.code.length y2] 35)) := hkp.alloc (by omega) _
        clear hmv hg hkp hbw
        go_upto_region 6 with fail
        generalize wr.alloc (.cells #[.int .i64 m.name, .slice x1 m.args.length y1, .int .i64 m.gives, .slice x2 m.code.length y2] 35) = X at *
        clear d0 d1 d2 d3 hws
        generalize wr.heap.size = bx at *
        have hXs : w.heap.size ≤ X.heap.size := (hwW.trans hkX.below).size
        have n0 : X.cell? ⟨bx, 0, none⟩ = some (.int .i64 m.name) := HBM.out.cell (i := 0) rfl
        go_wp2_with (at_builtin; refine wpList_grow rfl _ _ rfl w.heap.size _ _ rfl (growOn HGX.out (allocBelow _ _)) (by simp; omega) (some ⟨X.heap.size, 0, none⟩) 1 0 [m.name] rfl (SI.weak (lit1_si X _) (Nat.zero_le _)) (by simp; omega) ?_)
        intro v2 w2 hg2 hk2
        have hk2W : Kept w.heap.size W w2 := (hkX.alloc (by omega) _).trans hk2
        have HBM2 : Hid (BoxT w2 bx 35 #[.int .i64 m.name, .slice x1 m.args.length y1, .int .i64 m.gives, .slice x2 m.code.length y2]) := hk2.box _ _ _ (by decide) (HBM.out.on (allocBelow _ _))
        obtain ⟨L2, hL2⟩ : ∃ L, L = headL c k ++ [m.name] := ⟨_, rfl⟩
        rw [← hL2] at hg2
        have hl2 : L2.length = (headL c k).length + 1 := by rw [hL2]; simp
        have HL2 : Hid (L2 = headL c k ++ [m.name]) := hL2
        have HG2 : Hid (Grow w.heap.size w2 v2 L2) := hg2
        obtain ⟨g2, c2, rfl⟩ := growForm hg2
        clear hL2
        have hs2 : w.heap.size ≤ w2.heap.size := (hwW.trans hk2W.below).size
        have n1 : w2.cell? ⟨bx, 1, none⟩ = some (.slice x1 m.args.length y1) := HBM2.out.cell (i := 1) rfl
        clear hg2 hk2 n0 hkX HGX HBM hXs
        go_wp2_with fail
        refine (counted_at B x1 y1 m.args (by omega) w2 (SI.on HSA.out (Keep.of (hwW.trans hk2W.below)))).mono ?_
        rintro e w3 ⟨v3, rfl, hg3', hb3⟩
        have hg3 : Hid (Grow w2.heap.size w3 v3 ((m.args.length : Int) :: m.args)) := hg3'
        clear hg3'
        obtain ⟨g3, c3, rfl⟩ := growForm hg3.out
        have hs3 : w.heap.size ≤ w3.heap.size := Nat.le_trans hs2 hb3.size
        go_wp2_with (at_builtin; refine wpList_grow rfl _ _ rfl w.heap.size (.slice (some ⟨g2, 0, none⟩) L2.length c2) L2 (by simp [Act.eval]; omega) (growOn HG2.out hb3) hs3 (some ⟨g3, 0, none⟩) c3 0 ((m.args.length : Int) :: m.args) rfl (SI.weak hg3.out.gint.si (Nat.zero_le _)) (by simp; omega) ?_)
        intro v4 w4 hg4 hk4
        have hk3W : Kept w.heap.size W w3 := hk2W.trans (Kept.of hb3 hs2)
        have hk4W : Kept w.heap.size W w4 := hk3W.trans hk4
        have HBM4 : Hid (BoxT w4 bx 35 #[.int .i64 m.name, .slice x1 m.args.length y1, .int .i64 m.gives, .slice x2 m.code.length y2]) := hk4.box _ _ _ (by decide) (HBM2.out.on hb3)
        obtain ⟨L4, hL4⟩ : ∃ L, L = L2 ++ (m.args.length : Int) :: m.args := ⟨_, rfl⟩
        rw [← hL4] at hg4
        have hl4 : L4.length = L2.length + (m.args.length + 1) := by rw [hL4]; simp
        have HL4 : Hid (L4 = L2 ++ (m.args.length : Int) :: m.args) := hL4
        have HG4 : Hid (Grow w.heap.size w4 v4 L4) := hg4
        obtain ⟨g4, c4, rfl⟩ := growForm hg4
        clear hL4
        have hs4 : w.heap.size ≤ w4.heap.size := (hwW.trans hk4W.below).size
        have n2 : w4.cell? ⟨bx, 2, none⟩ = some (.int .i64 m.gives) := HBM4.out.cell (i := 2) rfl
        have n3 : w4.cell? ⟨bx, 3, none⟩ = some (.slice x2 m.code.length y2) := HBM4.out.cell (i := 3) rfl
        clear hg4 hk4 hk2W hk3W hb3 hg3 HG2 HBM2 n1 hs3 hs2
        go_wp2_with (at_builtin; refine wpList_grow rfl _ _ rfl w.heap.size (.slice (some ⟨g4, 0, none⟩) L4.length c4) L4 (by simp [Act.eval] <;> omega) (growOn HG4.out (allocBelow _ _)) (by simp <;> omega) (some ⟨w4.heap.size, 0, none⟩) 2 0 [m.gives, (m.code.length : Int)] rfl (SI.weak (lit2_si w4 _ _) (Nat.zero_le _)) (by simp <;> omega) ?_)
        intro v5 w5 hg5 hk5
        have hk5W : Kept w.heap.size W w5 := (hk4W.alloc (by omega) _).trans hk5
        have HG5 : Hid (Grow w.heap.size w5 v5 (headL c (k + 1))) := by
          have e : headL c k ++ mtL m = L4 ++ [m.gives, (m.code.length : Int)] := by rw [HL4.out, HL2.out]; simp [mtL]
          show Grow _ _ _ _
          rw [HST.out, e]
          exact hg5
        clear hg5 hk5 hk4W HG4 HBM4 n2 n3
        go_wp2
        go_roundw
        case rel => exact ⟨k + 1, _, by omega, by go_num, rfl, HG5.out, hk5W⟩
        case measure => simp [intOf]; omega
      · have hki : ¬ (k : Int) < (c.meths.length : Int) := by omega
        have HE : Hid (Grow w.heap.size wr v (headL c c.meths.length)) := by
          have e : k = c.meths.length := by omega
          show Grow _ _ _ _
          rw [← e]
          exact hg.out
        clear hg
        go_wp2
        go_ret
        exact ⟨_, rfl, HE.out, hbw⟩
end Pg
end Go.Proofs.YtbgbddahniacbaaGreatDoor

/- Contracts of the two sides' small functions on the layout: which step is a jump, and its bytes. -/
namespace Go.Proofs.YtbgbddahniacbaaGreatDoor
namespace St
open Go.ChangeShapes Go.WideShapes Go.ChangeAt Go.RowKit

theorem jump_cases (op : Int) : (op = 11 ∧ Lay.jumpB op = true) ∨ (op = 12 ∧ Lay.jumpB op = true) ∨ (¬ op = 11 ∧ ¬ op = 12 ∧ Lay.jumpB op = false) := by
  unfold Lay.jumpB
  by_cases h1 : op = 11
  · simp [h1]
  · by_cases h2 : op = 12
    · simp [h2]
    · simp [h1, h2]
theorem boxC {w w1 : World} {x y z : Value} {t : TypeId} (hb : Below (w.alloc (.cells #[x, y, z] t)).heap.size (w.alloc (.cells #[x, y, z] t)) w1) :
    w1.cell? ⟨w.heap.size, 0, none⟩ = some x ∧ w1.cell? ⟨w.heap.size, 1, none⟩ = some y ∧ w1.cell? ⟨w.heap.size, 2, none⟩ = some z :=
  ⟨(hb.cell (by simp)).trans (by simp), (hb.cell (by simp)).trans (by simp), (hb.cell (by simp)).trans (by simp)⟩
theorem allocC (w : World) (x y z : Value) (t : TypeId) : (w.alloc (.cells #[x, y, z] t)).cell? ⟨w.heap.size, 0, none⟩ = some x ∧ (w.alloc (.cells #[x, y, z] t)).cell? ⟨w.heap.size, 1, none⟩ = some y ∧ (w.alloc (.cells #[x, y, z] t)).cell? ⟨w.heap.size, 2, none⟩ = some z := ⟨by simp, by simp, by simp⟩
theorem retI {a b : Int} (h : a = b) : Ending.returned (.int .i64 a) = .returned (.int .i64 b) := by rw [h]

set_option maxHeartbeats 800000 in
theorem isJump (op a b : Int) (w : World) :
    Calls Tryz.prog 86 #[.agg #[.int .i64 op, .int .i64 a, .int .i64 b]] w fun e w' => e = .returned (.bool (Lay.jumpB op)) ∧ Below w.heap.size w w' := by
  by_cases h : op = 11
  · subst h
    go_enter Tryz.func86, Tryz.ntmps86
    go_wp2
    go_ret
    exact ⟨rfl, by go_grown⟩
  · go_enter Tryz.func86, Tryz.ntmps86
    go_wp2
    go_ret
    exact ⟨rfl, by go_grown⟩
theorem l3Jump (op : Int) (w : World) :
    Calls Tryz.prog 79 #[.int .i64 op] w fun e w' => e = .returned (.bool (Lay.jumpB op)) ∧ w = w' := by
  by_cases h : op = 11
  · subst h
    go_enter Tryz.func79, Tryz.ntmps79
    go_wp2
    go_ret
    exact ⟨rfl, rfl⟩
  · go_enter Tryz.func79, Tryz.ntmps79
    go_wp2
    go_ret
    exact ⟨rfl, rfl⟩
end St
end Go.Proofs.YtbgbddahniacbaaGreatDoor
