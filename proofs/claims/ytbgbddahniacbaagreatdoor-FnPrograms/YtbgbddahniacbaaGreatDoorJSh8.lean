/- The contract of the other side's showing of a program. -/
import Derived.Test.YtbgbddahniacbaaGreatDoorJSh7
import Derived.Deep.RegionHeld
import Derived.Deep.CutRange
namespace Go.Proofs.YtbgbddahniacbaaGreatDoor
namespace Pg
open Go.ChangeShapes Go.WideShapes Go.ChangeAt Go.RowKit St

theorem text_len {ls : List (List UInt8)} (h : ∀ x ∈ ls, x.length ≤ 1000) : (textL ls).length ≤ 1001 * ls.length := by
  have := textL_len ls.length ls h (Nat.le_refl _)
  rw [List.take_of_length_le (Nat.le_refl _)] at this
  exact this
theorem linesP_take {p : Prg} {i : Nat} : ∀ x ∈ linesP (p.take i), x ∈ linesP p := by
  intro x hx
  unfold linesP at hx ⊢
  obtain ⟨c, hc, hx⟩ := List.mem_flatMap.1 hx
  exact List.mem_flatMap.2 ⟨c, List.mem_of_mem_take hc, hx⟩
theorem textL_app (a b : List (List UInt8)) : textL (a ++ b) = textL a ++ textL b := by simp [textL]
theorem textL_one (x : List UInt8) : textL [x] = x ++ [10] := by simp [textL]
theorem textP_len {p : Prg} (h : okP p = true) {i : Nat} (hi : i ≤ p.length) : (textL (linesP (p.take i))).length ≤ 40000 := by
  have h1 := text_len (ls := linesP (p.take i)) (fun x hx => linesP_small h x (linesP_take x hx))
  have h2 := linesP_len h i hi
  have h3 := (okP_len h).2
  omega
theorem textC_len {c : Cls} (h : FewC c) {k : Nat} (hk : k ≤ c.meths.length) : (textL (linesL c k)).length ≤ 8000 := by
  have h1 := text_len (ls := linesL c k) (linesL_small h k)
  have h2 := linesL_len (c := c) k
  have h3 := h.mlen
  omega

set_option maxRecDepth 100000 in
set_option maxHeartbeats 8000000 in
theorem specShowP (B : Nat) (p : Prg) (a : Option Addr) (cap : Nat) (hsp : SmallP p) (w : World) (hp : SK front B w (.slice a p.length cap) p) :
    Calls Tryz.prog 14 #[.agg #[.slice a p.length cap]] w fun e w' => e = .returned (.string ⟨(shownP p).toArray⟩) ∧ Below w.heap.size w w' := by
  have HSP : Hid (SmallP p) := hsp
  have HP : Hid (SK front B w (.slice a p.length cap) p) := hp
  clear hp hsp
  obtain ⟨W, hW⟩ : ∃ W, W = w.alloc (.cells #[.slice a p.length cap] 26) := ⟨_, rfl⟩
  have hwW : Below w.heap.size w W := by rw [hW]; exact allocBelow _ _
  have HBX : Hid (BoxT W w.heap.size 26 #[.slice a p.length cap]) := by rw [hW]; exact BoxT.new _ _ _
  go_enter Tryz.func14, Tryz.ntmps14
  go_wp2_with fail
  rw [← hW]
  clear hW
  refine (specProgramOk B p a cap HSP.out _ (SK.on HP.out (Keep.of hwW))).mono ?_
  rintro e w1 ⟨rfl, hb1⟩
  have hw1 : Below w.heap.size w w1 := below_over hwW hb1
  cases hok : okP p
  · have HN : Hid (shownP p = []) := by show _ = _; simp [shownP, hok]
    clear hb1
    go_wp2
    go_ret
    exact ⟨by rw [HN.out]; rfl, hw1⟩
  · have HN : Hid (shownP p = progT p) := by show _ = _; simp [shownP, hok]
    have HOK : Hid (okP p = true) := hok
    have hp6 := (okP_len hok).2
    clear hok
    go_wp2
    go_loopw [3, 4] (fun v i wr => ∃ (k : Nat) (s : ByteArray), k ≤ p.length ∧ i = .int .i64 k ∧ .string s = v ∧ Hid (s.data.toList = textL (linesP (p.take k))) ∧ Below W.heap.size W wr) (fun _ i _ => p.length - (intOf i).toNat)
    case atStart => exact ⟨0, ⟨#[]⟩, Nat.zero_le _, rfl, rfl, rfl, hb1⟩
    case round =>
      clear hb1 hw1
      obtain ⟨i, s, hi, rfl, rfl, hs, hb⟩ := hrel
      have hwr : Below w.heap.size w wr := below_over hwW hb
      have q0 : wr.cell? ⟨w.heap.size, 0, none⟩ = some (.slice a p.length cap) := (HBX.out.on hb).cell (i := 0) rfl
      have hsz : s.size ≤ 40000 := by
        have h1 := textP_len HOK.out hi
        rw [← hs.out] at h1
        have e : s.data.toList.length = s.size := by simp
        omega
      by_cases hlt : i < p.length
      · have hii : (i : Int) < (p.length : Int) := by omega
        have HFW : Hid (FewC p[i]) := few_of HOK.out hlt
        have HST : Hid (linesP (p.take (i + 1)) = linesP (p.take i) ++ linesL p[i] p[i].meths.length) := linesP_step hlt
        obtain ⟨b, o, rfl, _, vf, vm, d0, d1, d2, hcv⟩ := HP.out.get hlt
        have l0 : b < w.heap.size := cell_lt d0
        have d0 := (hwr.cell l0).trans d0
        have d1 := (hwr.cell l0).trans d1
        have d2 := (hwr.cell l0).trans d2
        obtain ⟨z1, t1, rfl⟩ := hcv.1.form
        obtain ⟨z2, t2, rfl⟩ := hcv.2.form
        have HI : Hid (SI true B w (.slice z1 p[i].fields.length t1) p[i].fields) := hcv.1
        have HM : Hid (SM front B w (.slice z2 p[i].meths.length t2) p[i].meths) := hcv.2
        generalize p[i] = c at *
        clear hcv
        have hml := HFW.out.mlen
        have hfl := HFW.out.flen
        have HHD : Hid ((headL c c.meths.length).length ≤ 35 ∧ 0 < (headL c c.meths.length).length ∧ (∀ x ∈ headL c c.meths.length, -2147483648 ≤ x ∧ x ≤ 2147483647) ∧ (numsT (headL c c.meths.length)).length ≤ 1000) := HFW.out.head
        have HBC : Hid (BoxT (wr.alloc (.cells #[.int .i64 c.super, .slice z1 c.fields.length t1, .slice z2 c.meths.length t2] 45)) wr.heap.size 45 #[.int .i64 c.super, .slice z1 c.fields.length t1, .slice z2 c.meths.length t2]) := BoxT.new _ _ _
        have hbC : Below W.heap.size W (wr.alloc (.cells #[.int .i64 c.super, .slice z1 c.fields.length t1, .slice z2 c.meths.length t2] 45)) := hb.alloc hb.size _
        go_upto_region 8 with fail
        generalize wr.alloc (.cells #[.int .i64 c.super, .slice z1 c.fields.length t1, .slice z2 c.meths.length t2] 45) = WC at *
        clear d0 d1 d2 hb hwr q0
        generalize wr.heap.size = bc at *
        have hwWC : Below w.heap.size w WC := below_over hwW hbC
        obtain ⟨BW, hBWe⟩ : ∃ BW, BW = WC.heap.size := ⟨_, rfl⟩
        have hBW : w.heap.size ≤ BW := by rw [hBWe]; exact hwWC.size
        have hBWW : W.heap.size ≤ BW := by rw [hBWe]; exact hbC.size
        have hBWs : BW ≤ WC.heap.size := by omega
        have k0 : WC.cell? ⟨bc, 0, none⟩ = some (.int .i64 c.super) := HBC.out.cell (i := 0) rfl
        have k1 : WC.cell? ⟨bc, 1, none⟩ = some (.slice z1 c.fields.length t1) := HBC.out.cell (i := 1) rfl
        have k2 : (WC.alloc (.cells #[.int .i64 c.super, .int .i64 (c.fields.length : Int)] 2)).cell? ⟨bc, 1, none⟩ = some (.slice z1 c.fields.length t1) := (HBC.out.on (allocBelow _ _)).cell (i := 1) rfl
        have HL2 : Hid (Grow BW (WC.alloc (.cells #[.int .i64 c.super, .int .i64 (c.fields.length : Int)] 2)) (.slice (some ⟨WC.heap.size, 0, none⟩) 2 2) [c.super, (c.fields.length : Int)]) := growBase (grow_lit2 WC _ _) (by omega)
        clear hBWe
        go_wp2_with (at_builtin; refine wpList_grow rfl _ _ rfl BW _ _ rfl HL2.out (by simp; omega) z1 t1 B c.fields rfl (SI.on HI.out (Keep.of (below_over hwWC (allocBelow _ _)))) (by simp; omega) ?_)
        intro v1 w1 hg1 hk1
        have hk1W : Kept BW WC w1 := (Kept.of (allocBelow _ _) hBWs).trans hk1
        have HG1 : Hid (Grow BW w1 v1 (headL0 c)) := hg1
        obtain ⟨g1, c1, rfl⟩ := growForm HG1.out
        have hs1 : BW ≤ w1.heap.size := Nat.le_trans hBWs hk1W.below.size
        have k3 : w1.cell? ⟨bc, 2, none⟩ = some (.slice z2 c.meths.length t2) := (hk1W.box _ _ _ (by decide) HBC.out).cell (i := 2) rfl
        clear hg1 hk1 k0 k1 k2 HL2
        go_wp2_with (at_builtin; refine wpList_grow rfl _ _ rfl BW (.slice (some ⟨g1, 0, none⟩) (headL0 c).length c1) (headL0 c) (by simp [Act.eval]) (growOn HG1.out (allocBelow _ _)) (by simp; omega) (some ⟨w1.heap.size, 0, none⟩) 1 0 [(c.meths.length : Int)] rfl (SI.weak (lit1_si w1 _) (Nat.zero_le _)) (by simp [headL0]; omega) ?_)
        intro v2 w2 hg2 hk2
        have hk2W : Kept BW WC w2 := (hk1W.alloc hBWs _).trans hk2
        have HG2 : Hid (Grow BW w2 v2 (headL c 0)) := by
          have e : headL c 0 = headL0 c ++ [(c.meths.length : Int)] := by simp [headL, headL0]
          show Grow _ _ _ _
          rw [e]
          exact hg2
        clear hg2 hk2 HG1 hk1W hs1 k3
        go_wp2
        go_loopw [6, 7] (fun v j wm => ∃ (k : Nat) (v0 : Value), k ≤ c.meths.length ∧ j = .int .i64 k ∧ v0 = v ∧ Hid (Grow BW wm v0 (headL c k)) ∧ Kept BW WC wm) (fun _ j _ => c.meths.length - (intOf j).toNat)
        case atStart => exact ⟨0, _, Nat.zero_le _, rfl, rfl, HG2.out, hk2W⟩
        case round =>
          clear HG2 hk2W
          obtain ⟨k, v, hk, rfl, rfl, hg, hkp⟩ := hrel
          have hbw : Below w.heap.size w wr := hwWC.trans (hkp.below.mono hBW)
          have y2 : wr.cell? ⟨bc, 2, none⟩ = some (.slice z2 c.meths.length t2) := (hkp.box _ _ _ (by decide) HBC.out).cell (i := 2) rfl
          have hsr : BW ≤ wr.heap.size := Nat.le_trans hBWs hkp.below.size
          obtain ⟨g, cv, rfl⟩ := growForm hg.out
          by_cases hkl : k < c.meths.length
          · have hki : (k : Int) < (c.meths.length : Int) := by omega
            have HHS : Hid (headL c (k + 1) = headL c k ++ mtL c.meths[k]) := headL_step hkl
            have hal := HFW.out.args _ (List.getElem_mem hkl)
            have hhl := headL_len HFW.out.flen HFW.out.args k hk
            obtain ⟨b', o', rfl, _, va, vc, m0, m1, m2, m3, hmv⟩ := HM.out.get hkl
            have l1 : b' < w.heap.size := cell_lt m0
            have m0 := (hbw.cell l1).trans m0
            have m1 := (hbw.cell l1).trans m1
            have m2 := (hbw.cell l1).trans m2
            have m3 := (hbw.cell l1).trans m3
            obtain ⟨x1, y1, rfl⟩ := hmv.1.form
            obtain ⟨x2, yc, rfl⟩ := front.form hmv.2
            have HSA : Hid (SI true B w (.slice x1 c.meths[k].args.length y1) c.meths[k].args) := hmv.1
            generalize c.meths[k] = m at *
            generalize yc = y2' at *
            clear hmv
            obtain ⟨l0', hl0⟩ : ∃ l, l = headL c k := ⟨_, rfl⟩
            rw [← hl0] at hg hhl HHS
            rw [← hl0]
            have hR : R14 BW g cv l0' WC (wr.alloc (.cells #[.int .i64 m.name, .slice x1 m.args.length y1, .int .i64 m.gives, .slice x2 m.code.length y2'] 35)) := (R14.mk hg.out hkp hsr).alloc _
            have hS : BoxT (wr.alloc (.cells #[.int .i64 m.name, .slice x1 m.args.length y1, .int .i64 m.gives, .slice x2 m.code.length y2'] 35)) wr.heap.size 35 #[.int .i64 m.name, .slice x1 m.args.length y1, .int .i64 m.gives, .slice x2 m.code.length y2'] := BoxT.new _ _ _
            clear hl0 hg hkp
            go_upto_region 14 with fail
            generalize wr.alloc (.cells #[.int .i64 m.name, .slice x1 m.args.length y1, .int .i64 m.gives, .slice x2 m.code.length y2'] 35) = X at *
            clear m0 m1 m2 m3 hbw y2 hsr
            generalize wr.heap.size = bm at *
            have RX0 : R14 BW g cv l0' WC X.drew := ⟨growOn hR.gr (Below.refl _ _).drew, hR.kp.trans (Kept.of (Below.refl _ _).drew hR.sz), hR.sz⟩
            have SX0 : BoxM bm 35 #[.int .i64 m.name, .slice x1 m.args.length y1, .int .i64 m.gives, .slice x2 m.code.length y2'] X.drew := BoxT.on hS (Below.refl _ _).drew
            clear hR hS
            refine wp_region_held_drew (S := BoxM bm 35 #[.int .i64 m.name, .slice x1 m.args.length y1, .int .i64 m.gives, .slice x2 m.code.length y2']) (by kernel_rfl) (by assumption) (fun _ => ?_)
            generalize World.drew X = X0 at *
            refine wpAnyH_take (i := 0) (v := ?_) rfl (by kernel_rfl) (by kernel_rfl) (by kernel_rfl) (fun _ _ _ h => h) (Or.inl ⟨by kernel_rfl, ?_⟩) (by assumption) ?_
            rotate_left 1
            · intro w' hS
              have b0 : w'.cell? ⟨bm, 0, none⟩ = some (.int .i64 m.name) := BoxT.cell hS (i := 0) rfl
              have b1 : w'.cell? ⟨bm, 1, none⟩ = some (.slice x1 m.args.length y1) := BoxT.cell hS (i := 1) rfl
              have b2 : w'.cell? ⟨bm, 2, none⟩ = some (.int .i64 m.gives) := BoxT.cell hS (i := 2) rfl
              have b3 : w'.cell? ⟨bm, 3, none⟩ = some (.slice x2 m.code.length y2') := BoxT.cell hS (i := 3) rfl
              go_simp
              try with_reducible rfl
            simp only [Act.put]
            refine wpAnyH_take (i := 1) (v := ?_) rfl (by kernel_rfl) (by kernel_rfl) (by kernel_rfl) (fun _ _ _ h => h) (Or.inl ⟨by kernel_rfl, ?_⟩) (by assumption) ?_
            rotate_left 1
            · intro w' hS
              have b0 : w'.cell? ⟨bm, 0, none⟩ = some (.int .i64 m.name) := BoxT.cell hS (i := 0) rfl
              have b1 : w'.cell? ⟨bm, 1, none⟩ = some (.slice x1 m.args.length y1) := BoxT.cell hS (i := 1) rfl
              have b2 : w'.cell? ⟨bm, 2, none⟩ = some (.int .i64 m.gives) := BoxT.cell hS (i := 2) rfl
              have b3 : w'.cell? ⟨bm, 3, none⟩ = some (.slice x2 m.code.length y2') := BoxT.cell hS (i := 3) rfl
              go_simp
              try with_reducible rfl
            simp only [Act.put]
            refine wpAnyH_take (i := 2) (v := ?_) rfl (by kernel_rfl) (by kernel_rfl) (by kernel_rfl) (fun _ _ _ h => h) (Or.inl ⟨by kernel_rfl, ?_⟩) (by assumption) ?_
            rotate_left 1
            · intro w' hS
              have b0 : w'.cell? ⟨bm, 0, none⟩ = some (.int .i64 m.name) := BoxT.cell hS (i := 0) rfl
              have b1 : w'.cell? ⟨bm, 1, none⟩ = some (.slice x1 m.args.length y1) := BoxT.cell hS (i := 1) rfl
              have b2 : w'.cell? ⟨bm, 2, none⟩ = some (.int .i64 m.gives) := BoxT.cell hS (i := 2) rfl
              have b3 : w'.cell? ⟨bm, 3, none⟩ = some (.slice x2 m.code.length y2') := BoxT.cell hS (i := 3) rfl
              go_simp
              try with_reducible rfl
            simp only [Act.put]
            refine wpAnyH_take (i := 3) (v := ?_) rfl (by kernel_rfl) (by kernel_rfl) (by kernel_rfl) (fun _ _ _ h => h) (Or.inl ⟨by kernel_rfl, ?_⟩) (by assumption) ?_
            rotate_left 1
            · intro w' hS
              have b0 : w'.cell? ⟨bm, 0, none⟩ = some (.int .i64 m.name) := BoxT.cell hS (i := 0) rfl
              have b1 : w'.cell? ⟨bm, 1, none⟩ = some (.slice x1 m.args.length y1) := BoxT.cell hS (i := 1) rfl
              have b2 : w'.cell? ⟨bm, 2, none⟩ = some (.int .i64 m.gives) := BoxT.cell hS (i := 2) rfl
              have b3 : w'.cell? ⟨bm, 3, none⟩ = some (.slice x2 m.code.length y2') := BoxT.cell hS (i := 3) rfl
              go_simp
              try with_reducible rfl
            simp only [Act.put]
            refine wpAnyH_take (i := 4) (v := ?_) rfl (by kernel_rfl) (by kernel_rfl) (by kernel_rfl) (fun _ _ _ h => h) (Or.inl ⟨by kernel_rfl, ?_⟩) (by assumption) ?_
            rotate_left 1
            · intro w' hS
              have b0 : w'.cell? ⟨bm, 0, none⟩ = some (.int .i64 m.name) := BoxT.cell hS (i := 0) rfl
              have b1 : w'.cell? ⟨bm, 1, none⟩ = some (.slice x1 m.args.length y1) := BoxT.cell hS (i := 1) rfl
              have b2 : w'.cell? ⟨bm, 2, none⟩ = some (.int .i64 m.gives) := BoxT.cell hS (i := 2) rfl
              have b3 : w'.cell? ⟨bm, 3, none⟩ = some (.slice x2 m.code.length y2') := BoxT.cell hS (i := 3) rfl
              go_simp
              try with_reducible rfl
            simp only [Act.put]
            refine wpAnyH_take (i := 5) (v := ?_) rfl (by kernel_rfl) (by kernel_rfl) (by kernel_rfl) (fun _ _ _ h => h) (Or.inl ⟨by kernel_rfl, ?_⟩) (by assumption) ?_
            rotate_left 1
            · intro w' hS
              have b0 : w'.cell? ⟨bm, 0, none⟩ = some (.int .i64 m.name) := BoxT.cell hS (i := 0) rfl
              have b1 : w'.cell? ⟨bm, 1, none⟩ = some (.slice x1 m.args.length y1) := BoxT.cell hS (i := 1) rfl
              have b2 : w'.cell? ⟨bm, 2, none⟩ = some (.int .i64 m.gives) := BoxT.cell hS (i := 2) rfl
              have b3 : w'.cell? ⟨bm, 3, none⟩ = some (.slice x2 m.code.length y2') := BoxT.cell hS (i := 3) rfl
              go_simp
              try with_reducible rfl
            simp only [Act.put]
            refine wpAnyH_take (i := 8) (v := ?_) rfl (by kernel_rfl) (by kernel_rfl) (by kernel_rfl) (fun _ _ _ h => h) (Or.inl ⟨by kernel_rfl, ?_⟩) (by assumption) ?_
            rotate_left 1
            · intro w' hS
              have b0 : w'.cell? ⟨bm, 0, none⟩ = some (.int .i64 m.name) := BoxT.cell hS (i := 0) rfl
              have b1 : w'.cell? ⟨bm, 1, none⟩ = some (.slice x1 m.args.length y1) := BoxT.cell hS (i := 1) rfl
              have b2 : w'.cell? ⟨bm, 2, none⟩ = some (.int .i64 m.gives) := BoxT.cell hS (i := 2) rfl
              have b3 : w'.cell? ⟨bm, 3, none⟩ = some (.slice x2 m.code.length y2') := BoxT.cell hS (i := 3) rfl
              go_simp
              try with_reducible rfl
            simp only [Act.put]
            refine wpAnyH_take (i := 9) (v := ?_) rfl (by kernel_rfl) (by kernel_rfl) (by kernel_rfl) (fun _ _ _ h => h) (Or.inl ⟨by kernel_rfl, ?_⟩) (by assumption) ?_
            rotate_left 1
            · intro w' hS
              have b0 : w'.cell? ⟨bm, 0, none⟩ = some (.int .i64 m.name) := BoxT.cell hS (i := 0) rfl
              have b1 : w'.cell? ⟨bm, 1, none⟩ = some (.slice x1 m.args.length y1) := BoxT.cell hS (i := 1) rfl
              have b2 : w'.cell? ⟨bm, 2, none⟩ = some (.int .i64 m.gives) := BoxT.cell hS (i := 2) rfl
              have b3 : w'.cell? ⟨bm, 3, none⟩ = some (.slice x2 m.code.length y2') := BoxT.cell hS (i := 3) rfl
              go_simp
              try with_reducible rfl
            simp only [Act.put]
            refine wpAnyH_take (i := 11) (v := ?_) rfl (by kernel_rfl) (by kernel_rfl) (by kernel_rfl) (fun _ _ _ h => h) (Or.inl ⟨by kernel_rfl, ?_⟩) (by assumption) ?_
            rotate_left 1
            · intro w' hS
              have b0 : w'.cell? ⟨bm, 0, none⟩ = some (.int .i64 m.name) := BoxT.cell hS (i := 0) rfl
              have b1 : w'.cell? ⟨bm, 1, none⟩ = some (.slice x1 m.args.length y1) := BoxT.cell hS (i := 1) rfl
              have b2 : w'.cell? ⟨bm, 2, none⟩ = some (.int .i64 m.gives) := BoxT.cell hS (i := 2) rfl
              have b3 : w'.cell? ⟨bm, 3, none⟩ = some (.slice x2 m.code.length y2') := BoxT.cell hS (i := 3) rfl
              go_simp
              try with_reducible rfl
            simp only [Act.put]
            refine wpAnyH_take (i := 12) (v := ?_) rfl (by kernel_rfl) (by kernel_rfl) (by kernel_rfl) (fun _ _ _ h => h) (Or.inl ⟨by kernel_rfl, ?_⟩) (by assumption) ?_
            rotate_left 1
            · intro w' hS
              have b0 : w'.cell? ⟨bm, 0, none⟩ = some (.int .i64 m.name) := BoxT.cell hS (i := 0) rfl
              have b1 : w'.cell? ⟨bm, 1, none⟩ = some (.slice x1 m.args.length y1) := BoxT.cell hS (i := 1) rfl
              have b2 : w'.cell? ⟨bm, 2, none⟩ = some (.int .i64 m.gives) := BoxT.cell hS (i := 2) rfl
              have b3 : w'.cell? ⟨bm, 3, none⟩ = some (.slice x2 m.code.length y2') := BoxT.cell hS (i := 3) rfl
              go_simp
              try with_reducible rfl
            simp only [Act.put]
            refine wpAnyH_take (i := 13) (v := ?_) rfl (by kernel_rfl) (by kernel_rfl) (by kernel_rfl) (fun _ _ _ h => h) (Or.inl ⟨by kernel_rfl, ?_⟩) (by assumption) ?_
            rotate_left 1
            · intro w' hS
              have b0 : w'.cell? ⟨bm, 0, none⟩ = some (.int .i64 m.name) := BoxT.cell hS (i := 0) rfl
              have b1 : w'.cell? ⟨bm, 1, none⟩ = some (.slice x1 m.args.length y1) := BoxT.cell hS (i := 1) rfl
              have b2 : w'.cell? ⟨bm, 2, none⟩ = some (.int .i64 m.gives) := BoxT.cell hS (i := 2) rfl
              have b3 : w'.cell? ⟨bm, 3, none⟩ = some (.slice x2 m.code.length y2') := BoxT.cell hS (i := 3) rfl
              go_simp
              try with_reducible rfl
            simp only [Act.put]
            refine wpAnyH_take (i := 14) (v := ?_) rfl (by kernel_rfl) (by kernel_rfl) (by kernel_rfl) (fun _ _ _ h => h) (Or.inl ⟨by kernel_rfl, ?_⟩) (by assumption) ?_
            rotate_left 1
            · intro w' hS
              have b0 : w'.cell? ⟨bm, 0, none⟩ = some (.int .i64 m.name) := BoxT.cell hS (i := 0) rfl
              have b1 : w'.cell? ⟨bm, 1, none⟩ = some (.slice x1 m.args.length y1) := BoxT.cell hS (i := 1) rfl
              have b2 : w'.cell? ⟨bm, 2, none⟩ = some (.int .i64 m.gives) := BoxT.cell hS (i := 2) rfl
              have b3 : w'.cell? ⟨bm, 3, none⟩ = some (.slice x2 m.code.length y2') := BoxT.cell hS (i := 3) rfl
              go_simp
              try with_reducible rfl
            simp only [Act.put]
            refine wpAnyH_take (i := 15) (v := ?_) rfl (by kernel_rfl) (by kernel_rfl) (by kernel_rfl) (fun _ _ _ h => h) (Or.inl ⟨by kernel_rfl, ?_⟩) (by assumption) ?_
            rotate_left 1
            · intro w' hS
              have b0 : w'.cell? ⟨bm, 0, none⟩ = some (.int .i64 m.name) := BoxT.cell hS (i := 0) rfl
              have b1 : w'.cell? ⟨bm, 1, none⟩ = some (.slice x1 m.args.length y1) := BoxT.cell hS (i := 1) rfl
              have b2 : w'.cell? ⟨bm, 2, none⟩ = some (.int .i64 m.gives) := BoxT.cell hS (i := 2) rfl
              have b3 : w'.cell? ⟨bm, 3, none⟩ = some (.slice x2 m.code.length y2') := BoxT.cell hS (i := 3) rfl
              go_simp
              try with_reducible rfl
            simp only [Act.put]
            refine wpAnyH_ready (rs := [6, 16]) (by kernel_rfl) (by simp) ?_
            refine AllReadyH.cons rfl (fun K hK => ?_) (AllReadyH.cons rfl (fun K hK => ?_) AllReadyH.nil)
            · go_simp
              have RX0a := RX0.alloc (.cells #[.int .i64 m.name, .int .i64 (m.args.length : Int)] 2)
              have SX0a : BoxM bm 35 #[.int .i64 m.name, .slice x1 m.args.length y1, .int .i64 m.gives, .slice x2 m.code.length y2'] (World.alloc X0 (.cells #[.int .i64 m.name, .int .i64 (m.args.length : Int)] 2)) := BoxT.on SX0 (allocBelow _ _)
              have LAX0a : BoxT (World.alloc X0 (.cells #[.int .i64 m.name, .int .i64 (m.args.length : Int)] 2)) (World.heap X0).size 2 #[.int .i64 m.name, .int .i64 (m.args.length : Int)] := BoxT.new _ _ _
              have nAX0a : (World.heap X0).size ≠ g := RX0.ne
              refine hK.out _ _ (by assumption) (fun _ => ?_)
              clear hK K
              generalize World.alloc X0 (.cells #[.int .i64 m.name, .int .i64 (m.args.length : Int)] 2) = X0a at *
              clear RX0 SX0
              generalize (World.heap X0).size = ga at *
              try simp only [Act.put]
              refine wpAnyH_ready (rs := [7, 16]) (by kernel_rfl) (by simp) ?_
              refine AllReadyH.cons rfl (fun K hK => ?_) (AllReadyH.cons rfl (fun K hK => ?_) AllReadyH.nil)
              · refine stepGrowAt X0a rfl (.tmp 52) (.tmp 58) rfl BW g cv l0' (by simp [Act.eval]) RX0a.gr RX0a.sz (some ⟨ga, 0, none⟩) 2 0 [m.name, (m.args.length : Int)] (by simp [Act.eval]) (lit2_of LAX0a) (by first | omega | (simp; omega)) ?_
                intro g5 c5 X0ap hg hk hkb hor
                obtain ⟨L1, hL1⟩ : ∃ L, L = l0' ++ [m.name, (m.args.length : Int)] := ⟨_, rfl⟩
                rw [← hL1] at hg ⊢
                have HL1 : Hid (L1 = l0' ++ [m.name, (m.args.length : Int)]) := hL1
                have hnL1 : L1.length ≤ l0'.length + 3 := by rw [hL1]; simp; try omega
                clear hL1
                have RX0ap : R14 BW g5 c5 L1 WC X0ap := R14.app RX0a hg hk
                have SX0ap : BoxM bm 35 #[.int .i64 m.name, .slice x1 m.args.length y1, .int .i64 m.gives, .slice x2 m.code.length y2'] X0ap := hk.box _ _ _ (by decide) SX0a
                refine hK.out _ _ (by assumption) (fun _ => ?_)
                clear hK K RX0a SX0a hg hk hkb hor LAX0a nAX0a
                simp only [Act.put]
                refine wpAnyH_ready (rs := [10, 16]) (by kernel_rfl) (by simp) ?_
                refine AllReadyH.cons rfl (fun K hK => ?_) (AllReadyH.cons rfl (fun K hK => ?_) AllReadyH.nil)
                · refine stepGrowAt X0ap rfl (.tmp 59) (.tmp 61) rfl BW g5 c5 L1 (by simp [Act.eval]) RX0ap.gr RX0ap.sz x1 y1 B m.args (by simp [Act.eval]) (SI.on HSA.out (Keep.of (hwWC.trans (RX0ap.kp.below.mono hBW)))) (by first | omega | (simp; omega)) ?_
                  intro g6 c6 X0apq hg hk hkb hor
                  obtain ⟨L2, hL2⟩ : ∃ L, L = L1 ++ m.args := ⟨_, rfl⟩
                  rw [← hL2] at hg ⊢
                  have HL2' : Hid (L2 = L1 ++ m.args) := hL2
                  have hnL2 : L2.length ≤ L1.length + 3 := by rw [hL2]; simp; try omega
                  clear hL2
                  have RX0apq : R14 BW g6 c6 L2 WC X0apq := R14.app RX0ap hg hk
                  have SX0apq : BoxM bm 35 #[.int .i64 m.name, .slice x1 m.args.length y1, .int .i64 m.gives, .slice x2 m.code.length y2'] X0apq := hk.box _ _ _ (by decide) SX0ap
                  refine hK.out _ _ (by assumption) (fun _ => ?_)
                  clear hK K RX0ap SX0ap hg hk hkb hor
                  simp only [Act.put]
                  refine wpAnyH_ready (rs := [16]) (by kernel_rfl) (by simp) ?_
                  refine AllReadyH.cons rfl (fun K hK => ?_) AllReadyH.nil
                  go_simp
                  have RX0apqc := RX0apq.alloc (.cells #[.int .i64 m.gives, .int .i64 (m.code.length : Int)] 2)
                  have SX0apqc : BoxM bm 35 #[.int .i64 m.name, .slice x1 m.args.length y1, .int .i64 m.gives, .slice x2 m.code.length y2'] (World.alloc X0apq (.cells #[.int .i64 m.gives, .int .i64 (m.code.length : Int)] 2)) := BoxT.on SX0apq (allocBelow _ _)
                  have LCX0apqc : BoxT (World.alloc X0apq (.cells #[.int .i64 m.gives, .int .i64 (m.code.length : Int)] 2)) (World.heap X0apq).size 2 #[.int .i64 m.gives, .int .i64 (m.code.length : Int)] := BoxT.new _ _ _
                  have nCX0apqc : (World.heap X0apq).size ≠ g6 := RX0apq.ne
                  refine hK.out _ _ (by assumption) (fun _ => ?_)
                  clear hK K
                  generalize World.alloc X0apq (.cells #[.int .i64 m.gives, .int .i64 (m.code.length : Int)] 2) = X0apqc at *
                  clear RX0apq SX0apq
                  generalize (World.heap X0apq).size = gc at *
                  try simp only [Act.put]
                  refine wpAnyH_ready (rs := [17]) (by kernel_rfl) (by simp) ?_
                  refine AllReadyH.cons rfl (fun K hK => ?_) AllReadyH.nil
                  refine stepGrowAt X0apqc rfl (.tmp 62) (.tmp 68) rfl BW g6 c6 L2 (by simp [Act.eval]) RX0apqc.gr RX0apqc.sz (some ⟨gc, 0, none⟩) 2 0 [m.gives, (m.code.length : Int)] (by simp [Act.eval]) (lit2_of LCX0apqc) (by first | omega | (simp; omega)) ?_
                  intro g7 c7 X0apqcr hg hk hkb hor
                  obtain ⟨L3, hL3⟩ : ∃ L, L = L2 ++ [m.gives, (m.code.length : Int)] := ⟨_, rfl⟩
                  rw [← hL3] at hg ⊢
                  have HL3 : Hid (L3 = L2 ++ [m.gives, (m.code.length : Int)]) := hL3
                  have hnL3 : L3.length ≤ L2.length + 3 := by rw [hL3]; simp; try omega
                  clear hL3
                  have RX0apqcr : R14 BW g7 c7 L3 WC X0apqcr := R14.app RX0apqc hg hk
                  have SX0apqcr : BoxM bm 35 #[.int .i64 m.name, .slice x1 m.args.length y1, .int .i64 m.gives, .slice x2 m.code.length y2'] X0apqcr := hk.box _ _ _ (by decide) SX0apqc
                  refine hK.out _ _ (by assumption) (fun _ => ?_)
                  clear hK K RX0apqc SX0apqc hg hk hkb hor LCX0apqc nCX0apqc
                  simp only [Act.put]
                  refine wpAnyH_take (i := 18) (v := ?_) rfl (by kernel_rfl) (by kernel_rfl) (by kernel_rfl) (fun _ _ _ h => h) (Or.inl ⟨by kernel_rfl, ?_⟩) (by assumption) ?_
                  rotate_left 1
                  · intro w' hS
                    have b0 : w'.cell? ⟨bm, 0, none⟩ = some (.int .i64 m.name) := BoxT.cell hS (i := 0) rfl
                    have b1 : w'.cell? ⟨bm, 1, none⟩ = some (.slice x1 m.args.length y1) := BoxT.cell hS (i := 1) rfl
                    have b2 : w'.cell? ⟨bm, 2, none⟩ = some (.int .i64 m.gives) := BoxT.cell hS (i := 2) rfl
                    have b3 : w'.cell? ⟨bm, 3, none⟩ = some (.slice x2 m.code.length y2') := BoxT.cell hS (i := 3) rfl
                    go_simp
                    try with_reducible rfl
                  simp only [Act.put]
                  refine wpAnyH_done (by kernel_rfl) ?_ _
                  have HG9 : Hid (Grow BW X0apqcr (.slice (some ⟨g7, 0, none⟩) L3.length c7) (headL c (k + 1))) := by
                    have e : L3 = l0' ++ mtL m := by rw [HL3.out, HL2'.out, HL1.out]; simp [mtL]
                    show Grow _ _ _ _
                    rw [HHS.out, ← e]
                    exact RX0apqcr.gr
                  have hK9 := RX0apqcr.kp
                  go_simp
                  clear RX0apqcr
                  go_wp2
                  go_roundw
                  case rel => exact ⟨k + 1, _, by omega, by go_num, rfl, HG9.out, hK9⟩
                  case measure => simp [intOf]; omega
                · go_simp
                  have RX0apc := RX0ap.alloc (.cells #[.int .i64 m.gives, .int .i64 (m.code.length : Int)] 2)
                  have SX0apc : BoxM bm 35 #[.int .i64 m.name, .slice x1 m.args.length y1, .int .i64 m.gives, .slice x2 m.code.length y2'] (World.alloc X0ap (.cells #[.int .i64 m.gives, .int .i64 (m.code.length : Int)] 2)) := BoxT.on SX0ap (allocBelow _ _)
                  have LCX0apc : BoxT (World.alloc X0ap (.cells #[.int .i64 m.gives, .int .i64 (m.code.length : Int)] 2)) (World.heap X0ap).size 2 #[.int .i64 m.gives, .int .i64 (m.code.length : Int)] := BoxT.new _ _ _
                  have nCX0apc : (World.heap X0ap).size ≠ g5 := RX0ap.ne
                  refine hK.out _ _ (by assumption) (fun _ => ?_)
                  clear hK K
                  generalize World.alloc X0ap (.cells #[.int .i64 m.gives, .int .i64 (m.code.length : Int)] 2) = X0apc at *
                  clear RX0ap SX0ap
                  generalize (World.heap X0ap).size = gc at *
                  try simp only [Act.put]
                  refine wpAnyH_ready (rs := [10]) (by kernel_rfl) (by simp) ?_
                  refine AllReadyH.cons rfl (fun K hK => ?_) AllReadyH.nil
                  refine stepGrowAt X0apc rfl (.tmp 59) (.tmp 61) rfl BW g5 c5 L1 (by simp [Act.eval]) RX0apc.gr RX0apc.sz x1 y1 B m.args (by simp [Act.eval]) (SI.on HSA.out (Keep.of (hwWC.trans (RX0apc.kp.below.mono hBW)))) (by first | omega | (simp; omega)) ?_
                  intro g6 c6 X0apcq hg hk hkb hor
                  obtain ⟨L2, hL2⟩ : ∃ L, L = L1 ++ m.args := ⟨_, rfl⟩
                  rw [← hL2] at hg ⊢
                  have HL2' : Hid (L2 = L1 ++ m.args) := hL2
                  have hnL2 : L2.length ≤ L1.length + 3 := by rw [hL2]; simp; try omega
                  clear hL2
                  have RX0apcq : R14 BW g6 c6 L2 WC X0apcq := R14.app RX0apc hg hk
                  have SX0apcq : BoxM bm 35 #[.int .i64 m.name, .slice x1 m.args.length y1, .int .i64 m.gives, .slice x2 m.code.length y2'] X0apcq := hk.box _ _ _ (by decide) SX0apc
                  obtain ⟨LCX0apcq, nCX0apcq⟩ := litK LCX0apc nCX0apc hkb hor
                  refine hK.out _ _ (by assumption) (fun _ => ?_)
                  clear hK K RX0apc SX0apc hg hk hkb hor LCX0apc nCX0apc
                  simp only [Act.put]
                  refine wpAnyH_ready (rs := [17]) (by kernel_rfl) (by simp) ?_
                  refine AllReadyH.cons rfl (fun K hK => ?_) AllReadyH.nil
                  refine stepGrowAt X0apcq rfl (.tmp 62) (.tmp 68) rfl BW g6 c6 L2 (by simp [Act.eval]) RX0apcq.gr RX0apcq.sz (some ⟨gc, 0, none⟩) 2 0 [m.gives, (m.code.length : Int)] (by simp [Act.eval]) (lit2_of LCX0apcq) (by first | omega | (simp; omega)) ?_
                  intro g7 c7 X0apcqr hg hk hkb hor
                  obtain ⟨L3, hL3⟩ : ∃ L, L = L2 ++ [m.gives, (m.code.length : Int)] := ⟨_, rfl⟩
                  rw [← hL3] at hg ⊢
                  have HL3 : Hid (L3 = L2 ++ [m.gives, (m.code.length : Int)]) := hL3
                  have hnL3 : L3.length ≤ L2.length + 3 := by rw [hL3]; simp; try omega
                  clear hL3
                  have RX0apcqr : R14 BW g7 c7 L3 WC X0apcqr := R14.app RX0apcq hg hk
                  have SX0apcqr : BoxM bm 35 #[.int .i64 m.name, .slice x1 m.args.length y1, .int .i64 m.gives, .slice x2 m.code.length y2'] X0apcqr := hk.box _ _ _ (by decide) SX0apcq
                  refine hK.out _ _ (by assumption) (fun _ => ?_)
                  clear hK K RX0apcq SX0apcq hg hk hkb hor LCX0apcq nCX0apcq
                  simp only [Act.put]
                  refine wpAnyH_take (i := 18) (v := ?_) rfl (by kernel_rfl) (by kernel_rfl) (by kernel_rfl) (fun _ _ _ h => h) (Or.inl ⟨by kernel_rfl, ?_⟩) (by assumption) ?_
                  rotate_left 1
                  · intro w' hS
                    have b0 : w'.cell? ⟨bm, 0, none⟩ = some (.int .i64 m.name) := BoxT.cell hS (i := 0) rfl
                    have b1 : w'.cell? ⟨bm, 1, none⟩ = some (.slice x1 m.args.length y1) := BoxT.cell hS (i := 1) rfl
                    have b2 : w'.cell? ⟨bm, 2, none⟩ = some (.int .i64 m.gives) := BoxT.cell hS (i := 2) rfl
                    have b3 : w'.cell? ⟨bm, 3, none⟩ = some (.slice x2 m.code.length y2') := BoxT.cell hS (i := 3) rfl
                    go_simp
                    try with_reducible rfl
                  simp only [Act.put]
                  refine wpAnyH_done (by kernel_rfl) ?_ _
                  have HG9 : Hid (Grow BW X0apcqr (.slice (some ⟨g7, 0, none⟩) L3.length c7) (headL c (k + 1))) := by
                    have e : L3 = l0' ++ mtL m := by rw [HL3.out, HL2'.out, HL1.out]; simp [mtL]
                    show Grow _ _ _ _
                    rw [HHS.out, ← e]
                    exact RX0apcqr.gr
                  have hK9 := RX0apcqr.kp
                  go_simp
                  clear RX0apcqr
                  go_wp2
                  go_roundw
                  case rel => exact ⟨k + 1, _, by omega, by go_num, rfl, HG9.out, hK9⟩
                  case measure => simp [intOf]; omega
              · go_simp
                have RX0ac := RX0a.alloc (.cells #[.int .i64 m.gives, .int .i64 (m.code.length : Int)] 2)
                have SX0ac : BoxM bm 35 #[.int .i64 m.name, .slice x1 m.args.length y1, .int .i64 m.gives, .slice x2 m.code.length y2'] (World.alloc X0a (.cells #[.int .i64 m.gives, .int .i64 (m.code.length : Int)] 2)) := BoxT.on SX0a (allocBelow _ _)
                have LCX0ac : BoxT (World.alloc X0a (.cells #[.int .i64 m.gives, .int .i64 (m.code.length : Int)] 2)) (World.heap X0a).size 2 #[.int .i64 m.gives, .int .i64 (m.code.length : Int)] := BoxT.new _ _ _
                have nCX0ac : (World.heap X0a).size ≠ g := RX0a.ne
                have LAX0ac := BoxT.on LAX0a (allocBelow X0a (.cells #[.int .i64 m.gives, .int .i64 (m.code.length : Int)] 2))
                have nAX0ac := nAX0a
                refine hK.out _ _ (by assumption) (fun _ => ?_)
                clear hK K
                generalize World.alloc X0a (.cells #[.int .i64 m.gives, .int .i64 (m.code.length : Int)] 2) = X0ac at *
                clear RX0a SX0a LAX0a nAX0a
                generalize (World.heap X0a).size = gc at *
                try simp only [Act.put]
                refine wpAnyH_ready (rs := [7]) (by kernel_rfl) (by simp) ?_
                refine AllReadyH.cons rfl (fun K hK => ?_) AllReadyH.nil
                refine stepGrowAt X0ac rfl (.tmp 52) (.tmp 58) rfl BW g cv l0' (by simp [Act.eval]) RX0ac.gr RX0ac.sz (some ⟨ga, 0, none⟩) 2 0 [m.name, (m.args.length : Int)] (by simp [Act.eval]) (lit2_of LAX0ac) (by first | omega | (simp; omega)) ?_
                intro g5 c5 X0acp hg hk hkb hor
                obtain ⟨L1, hL1⟩ : ∃ L, L = l0' ++ [m.name, (m.args.length : Int)] := ⟨_, rfl⟩
                rw [← hL1] at hg ⊢
                have HL1 : Hid (L1 = l0' ++ [m.name, (m.args.length : Int)]) := hL1
                have hnL1 : L1.length ≤ l0'.length + 3 := by rw [hL1]; simp; try omega
                clear hL1
                have RX0acp : R14 BW g5 c5 L1 WC X0acp := R14.app RX0ac hg hk
                have SX0acp : BoxM bm 35 #[.int .i64 m.name, .slice x1 m.args.length y1, .int .i64 m.gives, .slice x2 m.code.length y2'] X0acp := hk.box _ _ _ (by decide) SX0ac
                obtain ⟨LCX0acp, nCX0acp⟩ := litK LCX0ac nCX0ac hkb hor
                refine hK.out _ _ (by assumption) (fun _ => ?_)
                clear hK K RX0ac SX0ac hg hk hkb hor LAX0ac nAX0ac LCX0ac nCX0ac
                simp only [Act.put]
                refine wpAnyH_ready (rs := [10]) (by kernel_rfl) (by simp) ?_
                refine AllReadyH.cons rfl (fun K hK => ?_) AllReadyH.nil
                refine stepGrowAt X0acp rfl (.tmp 59) (.tmp 61) rfl BW g5 c5 L1 (by simp [Act.eval]) RX0acp.gr RX0acp.sz x1 y1 B m.args (by simp [Act.eval]) (SI.on HSA.out (Keep.of (hwWC.trans (RX0acp.kp.below.mono hBW)))) (by first | omega | (simp; omega)) ?_
                intro g6 c6 X0acpq hg hk hkb hor
                obtain ⟨L2, hL2⟩ : ∃ L, L = L1 ++ m.args := ⟨_, rfl⟩
                rw [← hL2] at hg ⊢
                have HL2' : Hid (L2 = L1 ++ m.args) := hL2
                have hnL2 : L2.length ≤ L1.length + 3 := by rw [hL2]; simp; try omega
                clear hL2
                have RX0acpq : R14 BW g6 c6 L2 WC X0acpq := R14.app RX0acp hg hk
                have SX0acpq : BoxM bm 35 #[.int .i64 m.name, .slice x1 m.args.length y1, .int .i64 m.gives, .slice x2 m.code.length y2'] X0acpq := hk.box _ _ _ (by decide) SX0acp
                obtain ⟨LCX0acpq, nCX0acpq⟩ := litK LCX0acp nCX0acp hkb hor
                refine hK.out _ _ (by assumption) (fun _ => ?_)
                clear hK K RX0acp SX0acp hg hk hkb hor LCX0acp nCX0acp
                simp only [Act.put]
                refine wpAnyH_ready (rs := [17]) (by kernel_rfl) (by simp) ?_
                refine AllReadyH.cons rfl (fun K hK => ?_) AllReadyH.nil
                refine stepGrowAt X0acpq rfl (.tmp 62) (.tmp 68) rfl BW g6 c6 L2 (by simp [Act.eval]) RX0acpq.gr RX0acpq.sz (some ⟨gc, 0, none⟩) 2 0 [m.gives, (m.code.length : Int)] (by simp [Act.eval]) (lit2_of LCX0acpq) (by first | omega | (simp; omega)) ?_
                intro g7 c7 X0acpqr hg hk hkb hor
                obtain ⟨L3, hL3⟩ : ∃ L, L = L2 ++ [m.gives, (m.code.length : Int)] := ⟨_, rfl⟩
                rw [← hL3] at hg ⊢
                have HL3 : Hid (L3 = L2 ++ [m.gives, (m.code.length : Int)]) := hL3
                have hnL3 : L3.length ≤ L2.length + 3 := by rw [hL3]; simp; try omega
                clear hL3
                have RX0acpqr : R14 BW g7 c7 L3 WC X0acpqr := R14.app RX0acpq hg hk
                have SX0acpqr : BoxM bm 35 #[.int .i64 m.name, .slice x1 m.args.length y1, .int .i64 m.gives, .slice x2 m.code.length y2'] X0acpqr := hk.box _ _ _ (by decide) SX0acpq
                refine hK.out _ _ (by assumption) (fun _ => ?_)
                clear hK K RX0acpq SX0acpq hg hk hkb hor LCX0acpq nCX0acpq
                simp only [Act.put]
                refine wpAnyH_take (i := 18) (v := ?_) rfl (by kernel_rfl) (by kernel_rfl) (by kernel_rfl) (fun _ _ _ h => h) (Or.inl ⟨by kernel_rfl, ?_⟩) (by assumption) ?_
                rotate_left 1
                · intro w' hS
                  have b0 : w'.cell? ⟨bm, 0, none⟩ = some (.int .i64 m.name) := BoxT.cell hS (i := 0) rfl
                  have b1 : w'.cell? ⟨bm, 1, none⟩ = some (.slice x1 m.args.length y1) := BoxT.cell hS (i := 1) rfl
                  have b2 : w'.cell? ⟨bm, 2, none⟩ = some (.int .i64 m.gives) := BoxT.cell hS (i := 2) rfl
                  have b3 : w'.cell? ⟨bm, 3, none⟩ = some (.slice x2 m.code.length y2') := BoxT.cell hS (i := 3) rfl
                  go_simp
                  try with_reducible rfl
                simp only [Act.put]
                refine wpAnyH_done (by kernel_rfl) ?_ _
                have HG9 : Hid (Grow BW X0acpqr (.slice (some ⟨g7, 0, none⟩) L3.length c7) (headL c (k + 1))) := by
                  have e : L3 = l0' ++ mtL m := by rw [HL3.out, HL2'.out, HL1.out]; simp [mtL]
                  show Grow _ _ _ _
                  rw [HHS.out, ← e]
                  exact RX0acpqr.gr
                have hK9 := RX0acpqr.kp
                go_simp
                clear RX0acpqr
                go_wp2
                go_roundw
                case rel => exact ⟨k + 1, _, by omega, by go_num, rfl, HG9.out, hK9⟩
                case measure => simp [intOf]; omega
            · go_simp
              have RX0c := RX0.alloc (.cells #[.int .i64 m.gives, .int .i64 (m.code.length : Int)] 2)
              have SX0c : BoxM bm 35 #[.int .i64 m.name, .slice x1 m.args.length y1, .int .i64 m.gives, .slice x2 m.code.length y2'] (World.alloc X0 (.cells #[.int .i64 m.gives, .int .i64 (m.code.length : Int)] 2)) := BoxT.on SX0 (allocBelow _ _)
              have LCX0c : BoxT (World.alloc X0 (.cells #[.int .i64 m.gives, .int .i64 (m.code.length : Int)] 2)) (World.heap X0).size 2 #[.int .i64 m.gives, .int .i64 (m.code.length : Int)] := BoxT.new _ _ _
              have nCX0c : (World.heap X0).size ≠ g := RX0.ne
              refine hK.out _ _ (by assumption) (fun _ => ?_)
              clear hK K
              generalize World.alloc X0 (.cells #[.int .i64 m.gives, .int .i64 (m.code.length : Int)] 2) = X0c at *
              clear RX0 SX0
              generalize (World.heap X0).size = gc at *
              try simp only [Act.put]
              refine wpAnyH_ready (rs := [6]) (by kernel_rfl) (by simp) ?_
              refine AllReadyH.cons rfl (fun K hK => ?_) AllReadyH.nil
              go_simp
              have RX0ca := RX0c.alloc (.cells #[.int .i64 m.name, .int .i64 (m.args.length : Int)] 2)
              have SX0ca : BoxM bm 35 #[.int .i64 m.name, .slice x1 m.args.length y1, .int .i64 m.gives, .slice x2 m.code.length y2'] (World.alloc X0c (.cells #[.int .i64 m.name, .int .i64 (m.args.length : Int)] 2)) := BoxT.on SX0c (allocBelow _ _)
              have LAX0ca : BoxT (World.alloc X0c (.cells #[.int .i64 m.name, .int .i64 (m.args.length : Int)] 2)) (World.heap X0c).size 2 #[.int .i64 m.name, .int .i64 (m.args.length : Int)] := BoxT.new _ _ _
              have nAX0ca : (World.heap X0c).size ≠ g := RX0c.ne
              have LCX0ca := BoxT.on LCX0c (allocBelow X0c (.cells #[.int .i64 m.name, .int .i64 (m.args.length : Int)] 2))
              have nCX0ca := nCX0c
              refine hK.out _ _ (by assumption) (fun _ => ?_)
              clear hK K
              generalize World.alloc X0c (.cells #[.int .i64 m.name, .int .i64 (m.args.length : Int)] 2) = X0ca at *
              clear RX0c SX0c LCX0c nCX0c
              generalize (World.heap X0c).size = ga at *
              try simp only [Act.put]
              refine wpAnyH_ready (rs := [7]) (by kernel_rfl) (by simp) ?_
              refine AllReadyH.cons rfl (fun K hK => ?_) AllReadyH.nil
              refine stepGrowAt X0ca rfl (.tmp 52) (.tmp 58) rfl BW g cv l0' (by simp [Act.eval]) RX0ca.gr RX0ca.sz (some ⟨ga, 0, none⟩) 2 0 [m.name, (m.args.length : Int)] (by simp [Act.eval]) (lit2_of LAX0ca) (by first | omega | (simp; omega)) ?_
              intro g5 c5 X0cap hg hk hkb hor
              obtain ⟨L1, hL1⟩ : ∃ L, L = l0' ++ [m.name, (m.args.length : Int)] := ⟨_, rfl⟩
              rw [← hL1] at hg ⊢
              have HL1 : Hid (L1 = l0' ++ [m.name, (m.args.length : Int)]) := hL1
              have hnL1 : L1.length ≤ l0'.length + 3 := by rw [hL1]; simp; try omega
              clear hL1
              have RX0cap : R14 BW g5 c5 L1 WC X0cap := R14.app RX0ca hg hk
              have SX0cap : BoxM bm 35 #[.int .i64 m.name, .slice x1 m.args.length y1, .int .i64 m.gives, .slice x2 m.code.length y2'] X0cap := hk.box _ _ _ (by decide) SX0ca
              obtain ⟨LCX0cap, nCX0cap⟩ := litK LCX0ca nCX0ca hkb hor
              refine hK.out _ _ (by assumption) (fun _ => ?_)
              clear hK K RX0ca SX0ca hg hk hkb hor LAX0ca nAX0ca LCX0ca nCX0ca
              simp only [Act.put]
              refine wpAnyH_ready (rs := [10]) (by kernel_rfl) (by simp) ?_
              refine AllReadyH.cons rfl (fun K hK => ?_) AllReadyH.nil
              refine stepGrowAt X0cap rfl (.tmp 59) (.tmp 61) rfl BW g5 c5 L1 (by simp [Act.eval]) RX0cap.gr RX0cap.sz x1 y1 B m.args (by simp [Act.eval]) (SI.on HSA.out (Keep.of (hwWC.trans (RX0cap.kp.below.mono hBW)))) (by first | omega | (simp; omega)) ?_
              intro g6 c6 X0capq hg hk hkb hor
              obtain ⟨L2, hL2⟩ : ∃ L, L = L1 ++ m.args := ⟨_, rfl⟩
              rw [← hL2] at hg ⊢
              have HL2' : Hid (L2 = L1 ++ m.args) := hL2
              have hnL2 : L2.length ≤ L1.length + 3 := by rw [hL2]; simp; try omega
              clear hL2
              have RX0capq : R14 BW g6 c6 L2 WC X0capq := R14.app RX0cap hg hk
              have SX0capq : BoxM bm 35 #[.int .i64 m.name, .slice x1 m.args.length y1, .int .i64 m.gives, .slice x2 m.code.length y2'] X0capq := hk.box _ _ _ (by decide) SX0cap
              obtain ⟨LCX0capq, nCX0capq⟩ := litK LCX0cap nCX0cap hkb hor
              refine hK.out _ _ (by assumption) (fun _ => ?_)
              clear hK K RX0cap SX0cap hg hk hkb hor LCX0cap nCX0cap
              simp only [Act.put]
              refine wpAnyH_ready (rs := [17]) (by kernel_rfl) (by simp) ?_
              refine AllReadyH.cons rfl (fun K hK => ?_) AllReadyH.nil
              refine stepGrowAt X0capq rfl (.tmp 62) (.tmp 68) rfl BW g6 c6 L2 (by simp [Act.eval]) RX0capq.gr RX0capq.sz (some ⟨gc, 0, none⟩) 2 0 [m.gives, (m.code.length : Int)] (by simp [Act.eval]) (lit2_of LCX0capq) (by first | omega | (simp; omega)) ?_
              intro g7 c7 X0capqr hg hk hkb hor
              obtain ⟨L3, hL3⟩ : ∃ L, L = L2 ++ [m.gives, (m.code.length : Int)] := ⟨_, rfl⟩
              rw [← hL3] at hg ⊢
              have HL3 : Hid (L3 = L2 ++ [m.gives, (m.code.length : Int)]) := hL3
              have hnL3 : L3.length ≤ L2.length + 3 := by rw [hL3]; simp; try omega
              clear hL3
              have RX0capqr : R14 BW g7 c7 L3 WC X0capqr := R14.app RX0capq hg hk
              have SX0capqr : BoxM bm 35 #[.int .i64 m.name, .slice x1 m.args.length y1, .int .i64 m.gives, .slice x2 m.code.length y2'] X0capqr := hk.box _ _ _ (by decide) SX0capq
              refine hK.out _ _ (by assumption) (fun _ => ?_)
              clear hK K RX0capq SX0capq hg hk hkb hor LCX0capq nCX0capq
              simp only [Act.put]
              refine wpAnyH_take (i := 18) (v := ?_) rfl (by kernel_rfl) (by kernel_rfl) (by kernel_rfl) (fun _ _ _ h => h) (Or.inl ⟨by kernel_rfl, ?_⟩) (by assumption) ?_
              rotate_left 1
              · intro w' hS
                have b0 : w'.cell? ⟨bm, 0, none⟩ = some (.int .i64 m.name) := BoxT.cell hS (i := 0) rfl
                have b1 : w'.cell? ⟨bm, 1, none⟩ = some (.slice x1 m.args.length y1) := BoxT.cell hS (i := 1) rfl
                have b2 : w'.cell? ⟨bm, 2, none⟩ = some (.int .i64 m.gives) := BoxT.cell hS (i := 2) rfl
                have b3 : w'.cell? ⟨bm, 3, none⟩ = some (.slice x2 m.code.length y2') := BoxT.cell hS (i := 3) rfl
                go_simp
                try with_reducible rfl
              simp only [Act.put]
              refine wpAnyH_done (by kernel_rfl) ?_ _
              have HG9 : Hid (Grow BW X0capqr (.slice (some ⟨g7, 0, none⟩) L3.length c7) (headL c (k + 1))) := by
                have e : L3 = l0' ++ mtL m := by rw [HL3.out, HL2'.out, HL1.out]; simp [mtL]
                show Grow _ _ _ _
                rw [HHS.out, ← e]
                exact RX0capqr.gr
              have hK9 := RX0capqr.kp
              go_simp
              clear RX0capqr
              go_wp2
              go_roundw
              case rel => exact ⟨k + 1, _, by omega, by go_num, rfl, HG9.out, hK9⟩
              case measure => simp [intOf]; omega
          · have hki : ¬ (k : Int) < (c.meths.length : Int) := by omega
            have hke : k = c.meths.length := by omega
            subst hke
            have HIR : Hid (IRow wr g 0 (headL c c.meths.length)) := by
              obtain ⟨g', cp, he, _, _, hir, _⟩ := hg.out.gint
              injection he with he _ _
              injection he with he
              injection he with he
              show IRow _ _ _ _
              rw [he]
              exact hir
            clear hg
            go_wp2_with fail
            refine (St.ints_at g cv (headL c c.meths.length) (by have := HHD.out.1; omega) HHD.out.2.2.1 wr HIR.out).mono ?_
            rintro e wN ⟨rfl, hbN⟩
            have HBN : Hid (BoxT wN bc 45 #[.int .i64 c.super, .slice z1 c.fields.length t1, .slice z2 c.meths.length t2]) := (hkp.box _ _ _ (by decide) HBC.out).on hbN
            have hWN : Below W.heap.size W wN := below_over (hbC.trans (hkp.below.mono hBWW)) hbN
            have hnl := HHD.out.2.2.2
            obtain ⟨T, hTe⟩ : ∃ T, T = numsT (headL c c.meths.length) := ⟨_, rfl⟩
            rw [← hTe] at hnl ⊢
            have HTT : Hid (T = numsT (headL c c.meths.length)) := hTe
            clear hkp hbN hbw y2 hsr HIR hTe
            go_wp2
            go_loopw [3, 9] (fun v j wm => ∃ (k : Nat) (s' : ByteArray), k ≤ c.meths.length ∧ j = .int .i64 k ∧ .string s' = v ∧ Hid (s'.data.toList = textL (linesP (p.take i)) ++ textL (linesL c k)) ∧ Below wN.heap.size wN wm) (fun _ j _ => c.meths.length - (intOf j).toNat)
            case atStart =>
              refine ⟨0, _, Nat.zero_le _, rfl, rfl, ?_, Below.refl _ _⟩
              show _ = _
              have e : linesL c 0 = [T] := by rw [HTT.out]; simp [linesL]
              rw [e, textL_one, ← hs.out]
              simp
            case round =>
              obtain ⟨k, s', hk, rfl, rfl, hs', hb⟩ := hrel
              have hwr : Below w.heap.size w wr := below_over (below_over hwW hWN) hb
              have y2 : wr.cell? ⟨bc, 2, none⟩ = some (.slice z2 c.meths.length t2) := (HBN.out.on hb).cell (i := 2) rfl
              have hsz' : s'.size ≤ 48000 := by
                have h1 := textP_len HOK.out hi
                have h2 := textC_len HFW.out hk
                have h3 := congrArg List.length hs'.out
                rw [List.length_append] at h3
                have e : s'.data.toList.length = s'.size := by simp
                omega
              by_cases hkl : k < c.meths.length
              · have hki : (k : Int) < (c.meths.length : Int) := by omega
                have HLS : Hid (linesL c (k + 1) = linesL c k ++ [Tx.showC c.meths[k].code]) := linesL_step hkl
                have HCO : Hid (Tx.okC c.meths[k].code = true) := code_okC (HFW.out.ok _ (List.getElem_mem hkl)).2.2.2
                obtain ⟨bm, om, rfl, _, va, vc, m0, m1, m2, m3, hmv⟩ := HM.out.get hkl
                have l1 : bm < w.heap.size := cell_lt m0
                have m3 := (hwr.cell l1).trans m3
                obtain ⟨gc, yc, rfl, _, _, hrow, _⟩ := hmv.2
                have HRW : Hid (Row w gc 0 c.meths[k].code) := hrow
                generalize c.meths[k] = m at *
                clear hmv hrow m0 m1 m2
                have hcl := okC_len HCO.out
                go_wp2_with fail
                refine (showCode_at gc yc m.code HCO.out wr (HRW.out.on hwr)).mono ?_
                rintro e w5 ⟨rfl, hb5⟩
                have hb6 : Below wN.heap.size wN w5 := below_over hb hb5
                obtain ⟨U, hUe⟩ : ∃ U, U = Tx.showC m.code := ⟨_, rfl⟩
                rw [← hUe] at hcl ⊢
                have HUU : Hid (U = Tx.showC m.code) := hUe
                clear hb hb5 m3 y2 hUe hwr
                go_wp2
                go_roundw
                case rel =>
                  refine ⟨k + 1, _, by omega, by go_num, rfl, ?_, hb6⟩
                  show _ = _
                  rw [HLS.out, textL_app, ← HUU.out, textL_one, ← List.append_assoc, ← hs'.out]
                  simp
                case measure => simp [intOf]; omega
              · have hki : ¬ (k : Int) < (c.meths.length : Int) := by omega
                have HS7 : Hid (s'.data.toList = textL (linesP (p.take (i + 1)))) := by
                  have e : k = c.meths.length := by omega
                  show _ = _
                  rw [HST.out, textL_app, ← e]
                  exact hs'.out
                have hW7 : Below W.heap.size W wr := below_over hWN hb
                go_wp2
                go_roundw
                case rel => exact ⟨i + 1, _, by omega, by go_num, rfl, HS7.out, hW7⟩
                case measure => simp [intOf]; omega
      · have hii : ¬ (i : Int) < (p.length : Int) := by omega
        have HE : Hid (s = ⟨(progT p).toArray⟩) := by
          show s = _
          apply str_eq
          rw [hs.out, List.take_of_length_le (by omega)]
          rfl
        go_wp2
        go_ret
        exact ⟨by rw [HN.out]; exact retS HE.out, hwr⟩
end Pg
end Go.Proofs.YtbgbddahniacbaaGreatDoor
