/- The contract of the program's showing of a program. -/
import Derived.Test.YtbgbddahniacbaaGreatDoorJPs0
import Derived.Test.YtbgbddahniacbaaGreatDoorJGw0
import Derived.Maps.AppendAt
namespace Go.Proofs.YtbgbddahniacbaaGreatDoor
namespace Pg
open Go.ChangeShapes Go.WideShapes Go.ChangeAt Go.RowKit St

theorem GrowS.row {B : Nat} {w : World} {v : Value} {ls : List (List UInt8)} (h : GrowS B w v ls) (hn : 1 ≤ ls.length) : ∃ g cap, v = .slice (some ⟨g, 0, none⟩) ls.length cap ∧ SRow w g 0 ls := by
  obtain ⟨g, cap, hv, _, _, _, hc⟩ := owned h hn
  refine ⟨g, cap, hv, fun j x hj => ?_⟩
  rw [Nat.zero_add]
  exact hc j _ (by simp [St.strs, hj])

set_option maxRecDepth 100000 in
set_option maxHeartbeats 4000000 in
theorem implShowP (B : Nat) (p : Prg) (a : Option Addr) (cap : Nat) (hsp : SmallP p) (BT : Nat) (w : World) (hBT : BT ≤ w.heap.size) (hT : Tab BT w) (hp : SK front B w (.slice a p.length cap) p) :
    Calls Tryz.prog 9 #[.agg #[.slice a p.length cap]] w fun e w' => e = .returned (.string ⟨(shownP p).toArray⟩) ∧ Below w.heap.size w w' := by
  have HSP : Hid (SmallP p) := hsp
  have HT : Hid (Tab BT w) := hT
  have HBT : Hid (BT ≤ w.heap.size) := hBT
  have HP : Hid (SK front B w (.slice a p.length cap) p) := hp
  clear hp hsp hT hBT
  obtain ⟨W, hW⟩ : ∃ W, W = w.alloc (.cells #[.slice a p.length cap] 26) := ⟨_, rfl⟩
  have hwW : Below w.heap.size w W := by rw [hW]; exact allocBelow _ _
  have HBX : Hid (BoxT W w.heap.size 26 #[.slice a p.length cap]) := by rw [hW]; exact BoxT.new _ _ _
  go_enter Tryz.func9, Tryz.ntmps9
  go_wp2_with fail
  rw [← hW]
  clear hW
  refine (implProgramOk B p a cap HSP.out _ (SK.on HP.out (Keep.of hwW))).mono ?_
  rintro e w1 ⟨rfl, hb1⟩
  have hw1 : Below w.heap.size w w1 := below_over hwW hb1
  have q0 : w1.cell? ⟨w.heap.size, 0, none⟩ = some (.slice a p.length cap) := (HBX.out.on hb1).cell (i := 0) rfl
  cases hok : okP p
  · have HN : Hid (shownP p = []) := by show _ = _; simp [shownP, hok]
    clear hb1
    go_wp2
    go_ret
    exact ⟨by rw [HN.out]; rfl, hw1⟩
  · have HN : Hid (shownP p = progT p) := by show _ = _; simp [shownP, hok]
    have HOK : Hid (okP p = true) := hok
    have hp6 := (okP_len hok).2
    have hp1 := (okP_len hok).1
    clear hok
    go_wp2
    clear q0
    go_loopw [3, 14] (fun v i wr => ∃ (k : Nat) (v0 : Value), k ≤ p.length ∧ i = .int .i64 k ∧ v0 = v ∧ Hid (GrowS W.heap.size wr v0 (linesP (p.take k))) ∧ Below W.heap.size W wr) (fun _ i _ => p.length - (intOf i).toNat)
    case atStart => exact ⟨0, _, Nat.zero_le _, rfl, rfl, GrowS.nil _ _, hb1⟩
    case round =>
      clear hb1 hw1
      obtain ⟨i, v, hi, rfl, rfl, hg, hb⟩ := hrel
      have hwr : Below w.heap.size w wr := below_over hwW hb
      have hsr : W.heap.size ≤ wr.heap.size := hb.size
      by_cases hlt : i < p.length
      · have hii : (i : Int) < (p.length : Int) := by omega
        have HFW : Hid (FewC p[i]) := few_of HOK.out hlt
        have HST : Hid (linesP (p.take (i + 1)) = linesP (p.take i) ++ linesL p[i] p[i].meths.length) := linesP_step hlt
        have hll := linesP_len HOK.out i hi
        obtain ⟨b, o, rfl, _, vf, vm, d0, d1, d2, hcv⟩ := HP.out.get hlt
        have l0 : b < w.heap.size := cell_lt d0
        have d0 := (hwr.cell l0).trans d0
        have d1 := (hwr.cell l0).trans d1
        have d2 := (hwr.cell l0).trans d2
        obtain ⟨z1, t1, rfl⟩ := hcv.1.form
        obtain ⟨z2, t2, rfl⟩ := hcv.2.form
        have HI : Hid (SI true B w (.slice z1 p[i].fields.length t1) p[i].fields) := hcv.1
        have HM : Hid (SM front B w (.slice z2 p[i].meths.length t2) p[i].meths) := hcv.2
        generalize p[i] = c at *
        clear hcv
        have hml := HFW.out.mlen
        have HHD : Hid ((headL c c.meths.length).length ≤ 35 ∧ 0 < (headL c c.meths.length).length ∧ (∀ x ∈ headL c c.meths.length, -2147483648 ≤ x ∧ x ≤ 2147483647) ∧ (numsT (headL c c.meths.length)).length ≤ 1000) := HFW.out.head
        have HBC : Hid (BoxT (wr.alloc (.cells #[.int .i64 c.super, .slice z1 c.fields.length t1, .slice z2 c.meths.length t2] 45)) wr.heap.size 45 #[.int .i64 c.super, .slice z1 c.fields.length t1, .slice z2 c.meths.length t2]) := BoxT.new _ _ _
        have hbC : Below W.heap.size W (wr.alloc (.cells #[.int .i64 c.super, .slice z1 c.fields.length t1, .slice z2 c.meths.length t2] 45)) := hb.alloc hb.size _
        have HGC : Hid (GrowS W.heap.size (wr.alloc (.cells #[.int .i64 c.super, .slice z1 c.fields.length t1, .slice z2 c.meths.length t2] 45)) v (linesP (p.take i))) := hg.out.on (allocBelow _ _)
        go_wp2_with fail
        generalize wr.alloc (.cells #[.int .i64 c.super, .slice z1 c.fields.length t1, .slice z2 c.meths.length t2] 45) = X at *
        clear d0 d1 d2 hb hwr hg hsr
        generalize wr.heap.size = bc at *
        have hwX : Below w.heap.size w X := below_over hwW hbC
        refine (headOf_at B c z1 z2 t1 t2 HFW.out X (SI.on HI.out (Keep.of hwX)) (SM.on HM.out (Keep.of hwX))).mono ?_
        rintro e w2 ⟨v2, rfl, hg2', hb2⟩
        have HG2 : Hid (Grow X.heap.size w2 v2 (headL c c.meths.length)) := hg2'
        clear hg2'
        obtain ⟨g2, c2, rfl⟩ := growForm HG2.out
        have hw2 : Below w.heap.size w w2 := below_over hwX hb2
        have HI2 : Hid (IRow w2 g2 0 (headL c c.meths.length)) := by
          obtain ⟨g, cp, he, _, _, hir, _⟩ := HG2.out.gint
          injection he with he _ _
          injection he with he
          injection he with he
          rw [he]
          exact hir
        go_wp2_with fail
        refine (nums_at g2 c2 (headL c c.meths.length) (by have := HHD.out.1; omega) HHD.out.2.1 HHD.out.2.2.1 BT w2 (Nat.le_trans HBT.out hw2.size) (HT.out.on (hw2.mono HBT.out)) HI2.out).mono ?_
        rintro e w3 ⟨rfl, hb3⟩
        have hbX3 : Below X.heap.size X w3 := below_over hb2 hb3
        have HG3 : Hid (GrowS W.heap.size w3 v (linesP (p.take i))) := HGC.out.on hbX3
        have hW3 : Below W.heap.size W w3 := below_over hbC hbX3
        have HB3 : Hid (BoxT w3 bc 45 #[.int .i64 c.super, .slice z1 c.fields.length t1, .slice z2 c.meths.length t2]) := HBC.out.on hbX3
        have hs3 : W.heap.size ≤ w3.heap.size := hW3.size
        clear hb2 hb3 hw2 HI2 HG2 hwX hbX3 HGC HBC hbC
        go_wp2_with (at_builtin; refine wpList_growS rfl _ _ rfl W.heap.size _ (linesP (p.take i)) rfl HG3.out hs3 (numsT (headL c c.meths.length)) rfl (by omega) ?_)
        intro v4 w4 hg4 hk4
        have HG4 : Hid (GrowS W.heap.size w4 v4 (linesP (p.take i) ++ linesL c 0)) := by
          have e : linesL c 0 = [numsT (headL c c.meths.length)] := by simp [linesL]
          show GrowS _ _ _ _
          rw [e]
          exact hg4
        have hW4 : Below W.heap.size W w4 := hW3.trans hk4.below
        have y4 : w4.cell? ⟨bc, 2, none⟩ = some (.slice z2 c.meths.length t2) := (hk4.box _ _ _ (by decide) HB3.out).cell (i := 2) rfl
        clear hg4 hk4 HG3 HB3 hW3 hs3
        go_wp2
        clear y4
        go_loopw [3, 27] (fun v j wm => ∃ (k : Nat) (v0 : Value), k ≤ c.meths.length ∧ j = .int .i64 k ∧ v0 = v ∧ Hid (GrowS W.heap.size wm v0 (linesP (p.take i) ++ linesL c k)) ∧ Below W.heap.size W wm) (fun _ j _ => c.meths.length - (intOf j).toNat)
        case atStart => exact ⟨0, _, Nat.zero_le _, rfl, rfl, HG4.out, hW4⟩
        case round =>
          clear HG4 hW4
          obtain ⟨k, vv, hk, rfl, rfl, hg, hb⟩ := hrel
          have hwr : Below w.heap.size w wr := below_over hwW hb
          by_cases hkl : k < c.meths.length
          · have hki : (k : Int) < (c.meths.length : Int) := by omega
            have HLS : Hid (linesL c (k + 1) = linesL c k ++ [Tx.showC c.meths[k].code]) := linesL_step hkl
            have hlk := linesL_len (c := c) k
            have HCO : Hid (Tx.okC c.meths[k].code = true) := code_okC (HFW.out.ok _ (List.getElem_mem hkl)).2.2.2
            obtain ⟨bm, om, rfl, _, va, vc, m0, m1, m2, m3, hmv⟩ := HM.out.get hkl
            have l1 : bm < w.heap.size := cell_lt m0
            have m0 := (hwr.cell l1).trans m0
            have m1 := (hwr.cell l1).trans m1
            have m2 := (hwr.cell l1).trans m2
            have m3 := (hwr.cell l1).trans m3
            obtain ⟨x1, y1, rfl⟩ := hmv.1.form
            obtain ⟨gc, yc, rfl, _, _, hrow, _⟩ := hmv.2
            have HRW : Hid (Row w gc 0 c.meths[k].code) := hrow
            generalize c.meths[k] = m at *
            clear hmv hrow
            have hcl := okC_len HCO.out
            have HSC : Hid (Tx.shownC m.code = Tx.showC m.code) := by show _ = _; simp [Tx.shownC, HCO.out]
            have HGM : Hid (GrowS W.heap.size (wr.alloc (.cells #[.int .i64 m.name, .slice x1 m.args.length y1, .int .i64 m.gives, .slice (some ⟨gc, 0, none⟩) m.code.length yc] 35)) vv (linesP (p.take i) ++ linesL c k)) := hg.out.on (allocBelow _ _)
            have hbM : Below W.heap.size W (wr.alloc (.cells #[.int .i64 m.name, .slice x1 m.args.length y1, .int .i64 m.gives, .slice (some ⟨gc, 0, none⟩) m.code.length yc] 35)) := hb.alloc hb.size _
            go_wp2_with fail
            generalize wr.alloc (.cells #[.int .i64 m.name, .slice x1 m.args.length y1, .int .i64 m.gives, .slice (some ⟨gc, 0, none⟩) m.code.length yc] 35) = Y at *
            clear m0 m1 m2 m3 hb hwr hg
            have hwY : Below w.heap.size w Y := below_over hwW hbM
            refine (implShowC gc yc m.code (by omega) BT Y (Nat.le_trans HBT.out hwY.size) (HT.out.on (hwY.mono HBT.out)) (HRW.out.on hwY) (okC_bd HCO.out)).mono ?_
            rw [HSC.out]
            rintro e w5 ⟨rfl, hb5⟩
            have HG5 : Hid (GrowS W.heap.size w5 vv (linesP (p.take i) ++ linesL c k)) := HGM.out.on hb5
            have hW5 : Below W.heap.size W w5 := below_over hbM hb5
            have hs5 : W.heap.size ≤ w5.heap.size := hW5.size
            obtain ⟨LL, hLL⟩ : ∃ LL, LL = linesP (p.take i) ++ linesL c k := ⟨_, rfl⟩
            have hLl : LL.length ≤ 1000 := by rw [hLL, List.length_append]; omega
            rw [← hLL] at HG5
            have HLL : Hid (LL = linesP (p.take i) ++ linesL c k) := hLL
            clear hb5 HGM hbM hwY hLL
            go_wp2_with (at_builtin; refine wpList_growS rfl _ _ rfl W.heap.size _ LL rfl HG5.out hs5 (Tx.showC m.code) rfl hLl ?_)
            intro v6 w6 hg6 hk6
            have HG6 : Hid (GrowS W.heap.size w6 v6 (linesP (p.take i) ++ linesL c (k + 1))) := by
              show GrowS _ _ _ _
              rw [HLS.out, ← List.append_assoc, ← HLL.out]
              exact hg6
            have hW6 : Below W.heap.size W w6 := hW5.trans hk6.below
            clear hg6 hk6 HG5 hW5 hs5
            go_wp2
            go_roundw
            case rel => exact ⟨k + 1, _, by omega, by go_num, rfl, HG6.out, hW6⟩
            case measure => simp [intOf]; omega
          · have hki : ¬ (k : Int) < (c.meths.length : Int) := by omega
            have HG7 : Hid (GrowS W.heap.size wr vv (linesP (p.take (i + 1)))) := by
              have e : k = c.meths.length := by omega
              show GrowS _ _ _ _
              rw [HST.out, ← e]
              exact hg.out
            clear hg
            go_wp2
            go_roundw
            case rel => exact ⟨i + 1, _, by omega, by go_num, rfl, HG7.out, hb⟩
            case measure => simp [intOf]; omega
      · have hii : ¬ (i : Int) < (p.length : Int) := by omega
        have hg' := hg.out
        rw [List.take_of_length_le (show p.length ≤ i by omega)] at hg'
        have hll := linesP_len HOK.out p.length (Nat.le_refl _)
        rw [List.take_of_length_le (Nat.le_refl _)] at hll
        have hl1 : 1 ≤ (linesP p).length := linesP_pos hp1
        obtain ⟨gl, cl, rfl, hsr'⟩ := GrowS.row hg' hl1
        have HSR : Hid (SRow wr gl 0 (linesP p)) := hsr'
        clear hg hg' hsr'
        go_wp2_with fail
        refine (lines_at gl cl (linesP p) (by omega) (linesP_small HOK.out) wr HSR.out).mono ?_
        rintro e w8 ⟨rfl, hb8⟩
        go_wp2
        go_ret
        exact ⟨by rw [HN.out]; rfl, below_over hwr hb8⟩
end Pg
end Go.Proofs.YtbgbddahniacbaaGreatDoor

/- An append onto a list of one's own, as one step of a statement that draws its order. -/
namespace Go.Proofs.YtbgbddahniacbaaGreatDoor
namespace Pg
open Go.ChangeShapes Go.WideShapes Go.ChangeAt Go.RowKit St

theorem stepGrowAt (w : World) {ops : Array Oper} {o : Oper} {a : Act} {K : Act → World → Prop} {Q : Exit → Act → World → Prop} {E : Prop} (hgd : o.guard = none) (s x : Operand)
    (ho : o.op = .call { callee := .builtin .append, args := #[s, x], argTypes := #[29, 29] })
    (B g cv : Nat) (l : List Int) (hs : a.eval s = .slice (some ⟨g, 0, none⟩) l.length cv) (hg : Grow B w (.slice (some ⟨g, 0, none⟩) l.length cv) l) (hB : B ≤ w.heap.size)
    (z : Option Addr) (c B' : Nat) (r : List Int) (hx : a.eval x = .slice z r.length c) (hr : SI true B' w (.slice z r.length c) r) (hlen : l.length + r.length ≤ 1000)
    (h : ∀ g' cv' w', Grow B w' (.slice (some ⟨g', 0, none⟩) (l ++ r).length cv') (l ++ r) → Kept B w w' → (∀ b, b ≠ g → b < w.heap.size → w'.heap[b]? = w.heap[b]?) → (g' = g ∨ g' = w.heap.size) → K (a.put o.dst (.slice (some ⟨g', 0, none⟩) (l ++ r).length cv')) w') : if Region.wanted o (yielded ops a.tmps) = true then Oper.wp Tryz.prog o a w K Q else E := by
  obtain ⟨i0, hif, hz0, hz1, hz2⟩ := info_parts infoN
  cases z with
  | none =>
    obtain ⟨rfl, hn, rfl⟩ := SI.none_nil hr rfl
    refine stepAppNone w hgd s x 29 ho B 2 i0 1 Tryz.underlying29 hif _ l.length (nums l) hs hg.1 hx ?_
    have := h g cv w (by rw [List.append_nil]; exact hg) (Kept.refl _ _) (fun _ _ _ => rfl) (.inl rfl)
    rw [List.append_nil] at this
    exact this
  | some ad =>
    have hw : Region.wanted o (yielded ops a.tmps) = true := by simp [Region.wanted, hgd]
    rw [if_pos hw]
    obtain ⟨v', w', hr', h2, h3, h4, h5⟩ := run_append_own_at (P := Tryz.prog) w B 29 o.type 2 i0 (.int .i64 0) 1 8 Tryz.underlying29 hif hz0 hz1 hz2 rfl (by decide) (.slice (some ⟨g, 0, none⟩) l.length cv) l.length (nums l) hg.1 ad r.length c (nums r) (by rw [nums_length, Nat.mul_one]) (SI.nums hr) (nums_one r) (by unfold maxLen; omega) (by omega) hB
    have hG : Grow B w' v' (l ++ r) := ⟨by rw [List.length_append, nums_app]; exact h2, fun e => hg.2 (h4.1 e).1⟩
    obtain ⟨g', cv', hv⟩ := growForm hG
    unfold Oper.wp
    simp [execOp, ho, resolve, invoke, builtin, hs, hx, hr', Result.andThen]
    have := h g' cv' w' (by rw [← hv]; exact hG) (kept_grown hB hg.1 h3) (fun b hb hl => h3.block b hl (by simpa [Value.ownBlock] using hb)) (by rw [hv] at h5; simpa [Value.ownBlock] using h5)
    rw [← hv] at this
    exact this

theorem wpList_growAt (w : World) {ops : Array Oper} {rest : List Oper} {o : Oper} {a : Act} {Q : Exit → Act → World → Prop} (hgd : o.guard = none) (s x : Operand)
    (ho : o.op = .call { callee := .builtin .append, args := #[s, x], argTypes := #[29, 29] })
    (B g cv : Nat) (l : List Int) (hs : a.eval s = .slice (some ⟨g, 0, none⟩) l.length cv) (hg : Grow B w (.slice (some ⟨g, 0, none⟩) l.length cv) l) (hB : B ≤ w.heap.size)
    (z : Option Addr) (c B' : Nat) (r : List Int) (hx : a.eval x = .slice z r.length c) (hr : SI true B' w (.slice z r.length c) r) (hlen : l.length + r.length ≤ 1000)
    (h : ∀ g' cv' w', Grow B w' (.slice (some ⟨g', 0, none⟩) (l ++ r).length cv') (l ++ r) → Kept B w w' → (∀ b, b ≠ g → b < w.heap.size → w'.heap[b]? = w.heap[b]?) → (g' = g ∨ g' = w.heap.size) → wpList Tryz.prog ops Q rest (a.put o.dst (.slice (some ⟨g', 0, none⟩) (l ++ r).length cv')) w') : wpList Tryz.prog ops Q (o :: rest) a w := by
  obtain ⟨i0, hif, hz0, hz1, hz2⟩ := info_parts infoN
  cases z with
  | none =>
    obtain ⟨rfl, hn, rfl⟩ := SI.none_nil hr rfl
    refine wpList_append_own_none hgd s x 29 ho B 2 i0 1 Tryz.underlying29 hif _ l.length (nums l) hs hg.1 hx ?_
    have := h g cv w (by rw [List.append_nil]; exact hg) (Kept.refl _ _) (fun _ _ _ => rfl) (.inl rfl)
    rw [List.append_nil] at this
    exact this
  | some ad =>
    refine wpList_append_own_at w hgd s x 29 ho B 2 i0 (.int .i64 0) 1 8 Tryz.underlying29 hif hz0 hz1 hz2 rfl (by decide) _ l.length (nums l) hs hg.1 ad r.length c (nums r) hx (by rw [nums_length, Nat.mul_one]) (SI.nums hr) (nums_one r) (by unfold maxLen; omega) (by omega) hB ?_
    intro v' w' h2 h3 h4 h5
    have hG : Grow B w' v' (l ++ r) := ⟨by rw [List.length_append, nums_app]; exact h2, fun e => hg.2 (h4.1 e).1⟩
    obtain ⟨g', cv', hv⟩ := growForm hG
    have := h g' cv' w' (by rw [← hv]; exact hG) (kept_grown hB hg.1 h3) (fun b hb hl => h3.block b hl (by simpa [Value.ownBlock] using hb)) (by rw [hv] at h5; simpa [Value.ownBlock] using h5)
    rw [← hv] at this
    exact this
theorem grow_lt {B : Nat} {w : World} {g n cv : Nat} {l : List Int} (h : Grow B w (.slice (some ⟨g, 0, none⟩) n cv) l) : g < w.heap.size := by
  obtain ⟨g', c', he, _, hl, _⟩ := h.gint
  injection he with he _ _
  injection he with he
  injection he with he
  omega
end Pg
end Go.Proofs.YtbgbddahniacbaaGreatDoor
