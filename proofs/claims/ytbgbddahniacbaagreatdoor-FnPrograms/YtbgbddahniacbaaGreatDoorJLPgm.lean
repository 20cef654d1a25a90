/- The law FnPrograms answers true at every row of bytes. -/
import Derived.Test.YtbgbddahniacbaaGreatDoorJFq2
namespace Go.Proofs.YtbgbddahniacbaaGreatDoor
namespace Pg
open Go.ChangeShapes Go.WideShapes Go.ChangeAt Go.RowKit St

set_option maxRecDepth 100000 in
set_option maxHeartbeats 16000000 in
theorem pgm_small (w : World) (a0 : Option Addr) (len cap : Nat) (hB : Cu.Bytes w.heap.size w a0 len) (hT : Tab w.heap.size w) :
    Calls Tryz.prog 3 #[.slice a0 len cap] w fun e w' => e = .returned (.bool true) ∧ Below w.heap.size w w' := by
  have hl := hB.1
  have hnb : decide ((4096 : Int) < (len : Int)) = false := by simp; omega
  have HB : Hid (Cu.Bytes w.heap.size w a0 len) := hB
  have HT : Hid (Tab w.heap.size w) := hT
  clear hB hT
  go_enter Tryz.func3, Tryz.ntmps3
  go_wp2_with fail
  refine (Cu.big_at _ _ _ _).mono ?_
  rintro e w1 ⟨rfl, rfl⟩
  go_wp2_with fail
  refine (drawFieldsOf_at w.heap.size _ _ _ _ HB.out (Nat.le_refl _)).mono ?_
  rintro e w1 ⟨gp, cp, p, cl, rfl, hp⟩
  have hpl := hp.len
  have HPS : Hid (SmallP p) := hp.small
  have hb1 : Below w1.heap.size w1 (w1.alloc (.cells #[.slice (some ⟨gp, 0, none⟩) p.length cp] 26)) := allocBelow _ _
  have H1 : P1 w w1.heap.size gp cp p (w1.alloc (.cells #[.slice (some ⟨gp, 0, none⟩) p.length cp] 26)) := ⟨BoxT.new _ _ _, SK.weak (SK.on hp.sk (Keep.of hb1)) (Nat.zero_le _), below_over hp.below hb1⟩
  obtain ⟨lf, hlf⟩ : ∃ lf, lf = fieldsF p cl := ⟨_, rfl⟩
  have HLF : Hid (lf = fieldsF p cl) := hlf
  have hlfl : lf.length ≤ 24 := by rw [hlf]; exact fieldsF_len p cl
  obtain ⟨S, hSe⟩ : ∃ S : ByteArray, S = ⟨(shownP p).toArray⟩ := ⟨_, rfl⟩
  have HSS : Hid (S = ⟨(shownP p).toArray⟩) := hSe
  obtain ⟨ok, hoke⟩ : ∃ ok, ok = okP p := ⟨_, rfl⟩
  have HOK : Hid (ok = okP p) := hoke
  obtain ⟨bk, hbke⟩ : ∃ bk, bk = bulkF p := ⟨_, rfl⟩
  have HBK : Hid (bk = bulkF p) := hbke
  clear hnb hp hb1 hlf hl hSe hoke hbke
  go_wp2_with fail
  generalize w1.alloc (.cells #[.slice (some ⟨gp, 0, none⟩) p.length cp] 26) = u1 at *
  generalize w1.heap.size = pb at *
  refine (implFieldsOf 0 p _ cp cl HPS.out u1 H1.kp).mono ?_
  rw [← HLF.out]
  rintro e u2 ⟨v2, rfl, hg2, hb2⟩
  obtain ⟨gf, cf, rfl, _, _, hif, _⟩ := hg2.gint
  have H2 : P1 w pb gp cp p u2 := H1.on hb2
  have HF2 : Hid (IRow u2 gf 0 lf) := hif
  clear hg2 hb2 hif H1
  go_wp2_with fail
  refine (drawMethodOf_at w.heap.size u2 _ _ _ (HB.out.below H2.bl) H2.bl.size).mono ?_
  rintro e w3 ⟨gq, cq, q, c2, nm, rfl, hq⟩
  have HQS : Hid (SmallP q) := hq.small
  have hb3 : Below u2.heap.size u2 (w3.alloc (.cells #[.slice (some ⟨gq, 0, none⟩) q.length cq] 26)) := below_over hq.below (allocBelow _ _)
  have H3 : P1 w pb gp cp p (w3.alloc (.cells #[.slice (some ⟨gq, 0, none⟩) q.length cq] 26)) := H2.on hb3
  have HF3 : Hid (IRow (w3.alloc (.cells #[.slice (some ⟨gq, 0, none⟩) q.length cq] 26)) gf 0 lf) := HF2.out.on hb3
  have HQ3 : Hid (P1 w w3.heap.size gq cq q (w3.alloc (.cells #[.slice (some ⟨gq, 0, none⟩) q.length cq] 26))) := ⟨BoxT.new _ _ _, SK.weak (SK.on hq.sk (Keep.of (allocBelow _ _))) (Nat.zero_le _), below_over H2.bl hb3⟩
  obtain ⟨m, hme⟩ : ∃ m, m = (methF q c2 nm).getD zeroMt := ⟨_, rfl⟩
  obtain ⟨is, hise⟩ : ∃ is, is = (methF q c2 nm).isSome := ⟨_, rfl⟩
  have HMN : Hid (is = true → m.name = nm) := by
    show _ → _
    intro h
    rw [hme]
    exact meth_name (by rw [← hise]; exact h)
  have HSM : Hid (SmallM m) := by rw [hme]; exact meth_small HQS.out c2 nm
  have HME : Hid (m = (methF q c2 nm).getD zeroMt) := hme
  have HIS : Hid (is = (methF q c2 nm).isSome) := hise
  clear hq hb3 H2 HF2 hme hise HB
  go_wp2_with fail
  generalize w3.alloc (.cells #[.slice (some ⟨gq, 0, none⟩) q.length cq] 26) = u3 at *
  generalize w3.heap.size = qb at *
  refine (implMethodOf 0 q _ cq c2 nm HQS.out u3 HQ3.out.kp).mono ?_
  intro e w4 hpost
  obtain ⟨x1, y1, x2, y2, rfl, hr1, hr2, hb4⟩ := hpost.ans
  rw [← HME.out, ← HIS.out]
  rw [← HME.out] at hr1 hr2
  have hb4' : Below u3.heap.size u3 (w4.alloc (.cells #[.int .i64 m.name, .slice x1 m.args.length y1, .int .i64 m.gives, .slice x2 m.code.length y2] 35)) := below_over hb4 (allocBelow _ _)
  have H4 : P1 w pb gp cp p (w4.alloc (.cells #[.int .i64 m.name, .slice x1 m.args.length y1, .int .i64 m.gives, .slice x2 m.code.length y2] 35)) := H3.on hb4'
  have HF4 : Hid (IRow (w4.alloc (.cells #[.int .i64 m.name, .slice x1 m.args.length y1, .int .i64 m.gives, .slice x2 m.code.length y2] 35)) gf 0 lf) := HF3.out.on hb4'
  have HQ4 : Hid (P1 w qb gq cq q (w4.alloc (.cells #[.int .i64 m.name, .slice x1 m.args.length y1, .int .i64 m.gives, .slice x2 m.code.length y2] 35))) := HQ3.out.on hb4'
  have HM4 : Hid (BoxT (w4.alloc (.cells #[.int .i64 m.name, .slice x1 m.args.length y1, .int .i64 m.gives, .slice x2 m.code.length y2] 35)) w4.heap.size 35 #[.int .i64 m.name, .slice x1 m.args.length y1, .int .i64 m.gives, .slice x2 m.code.length y2]) := BoxT.new _ _ _
  have HR1 : Hid (RI (w4.alloc (.cells #[.int .i64 m.name, .slice x1 m.args.length y1, .int .i64 m.gives, .slice x2 m.code.length y2] 35)) x1 m.args) := hr1.on (allocBelow _ _)
  have HR2 : Hid (RC (w4.alloc (.cells #[.int .i64 m.name, .slice x1 m.args.length y1, .int .i64 m.gives, .slice x2 m.code.length y2] 35)) x2 m.code) := hr2.on (allocBelow _ _)
  have z4 := H4.x
  clear hpost hr1 hr2 hb4 hb4' H3 HF3 HQ3
  go_wp2_with fail
  generalize w4.alloc (.cells #[.int .i64 m.name, .slice x1 m.args.length y1, .int .i64 m.gives, .slice x2 m.code.length y2] 35) = u4 at *
  generalize w4.heap.size = mb at *
  refine (implShowP 0 p _ cp HPS.out w.heap.size u4 H4.bl.size (HT.out.on H4.bl) H4.kp).mono ?_
  rw [← HSS.out]
  rintro e u5 ⟨rfl, hb5⟩
  have z5 := (HQ4.out.on hb5).x
  have H5 : P1 w pb gp cp p u5 := H4.on hb5
  have HF5 : Hid (IRow u5 gf 0 lf) := HF4.out.on hb5
  have HQ5 : Hid (P1 w qb gq cq q u5) := HQ4.out.on hb5
  have HM5 : Hid (BoxT u5 mb 35 #[.int .i64 m.name, .slice x1 m.args.length y1, .int .i64 m.gives, .slice x2 m.code.length y2]) := HM4.out.on hb5
  have HR15 : Hid (RI u5 x1 m.args) := HR1.out.on hb5
  have HR25 : Hid (RC u5 x2 m.code) := HR2.out.on hb5
  clear hb5 H4 HF4 HQ4 HM4 HR1 HR2 z4
  go_wp2_with fail
  refine (specMethodOf 0 q _ cq c2 nm HQS.out u5 HQ5.out.kp).mono ?_
  intro e w6 hpost
  obtain ⟨x3, y3, x4, y4, rfl, hr3, hr4, hb6⟩ := hpost.ans
  rw [← HME.out, ← HIS.out]
  rw [← HME.out] at hr3 hr4
  have hb6' : Below u5.heap.size u5 (w6.alloc (.cells #[.int .i64 m.name, .slice x3 m.args.length y3, .int .i64 m.gives, .slice x4 m.code.length y4] 35)) := below_over hb6 (allocBelow _ _)
  have H6 : QR w pb gp cp p gf lf mb w6.heap.size m x1 x2 x3 x4 y1 y2 y3 y4 (w6.alloc (.cells #[.int .i64 m.name, .slice x3 m.args.length y3, .int .i64 m.gives, .slice x4 m.code.length y4] 35)) := ⟨H5.on hb6', HF5.out.on hb6', HM5.out.on hb6', BoxT.new _ _ _, HR15.out.on hb6', HR25.out.on hb6', hr3.on (allocBelow _ _), hr4.on (allocBelow _ _)⟩
  have hni : (is != is) = false := by cases is <;> rfl
  have hno : (ok != ok) = false := by cases ok <;> rfl
  have hnk : (bk != bk) = false := by simp
  clear hpost hr3 hr4 hb6 hb6' H5 HF5 HQ5 HM5 HR15 HR25 z5
  go_upto_region 9 with fail
  generalize w6.alloc (.cells #[.int .i64 m.name, .slice x3 m.args.length y3, .int .i64 m.gives, .slice x4 m.code.length y4] 35) = u6 at *
  generalize w6.heap.size = xb at *
  have H6d : QR w pb gp cp p gf lf mb xb m x1 x2 x3 x4 y1 y2 y3 y4 u6.drew := H6.on (Below.refl _ _).drew
  go_cut [88] (fun b u => b = .bool false ∧ QR w pb gp cp p gf lf mb xb m x1 x2 x3 x4 y1 y2 y3 y4 u)
  case first =>
    rename_i J KK hJ hKK
    refine wp_region_held_drew (S := QR w pb gp cp p gf lf mb xb m x1 x2 x3 x4 y1 y2 y3 y4) (by kernel_rfl) (by assumption) (fun _ => ?_)
    refine wpAnyH_take (i := 0) (v := ?_) rfl (by kernel_rfl) (by kernel_rfl) (by kernel_rfl) (fun _ _ _ h => h) (Or.inl ⟨by kernel_rfl, ?_⟩) (by assumption) ?_
    rotate_left 1
    · intro w' hS
      have b0 := hS.p1.x
      obtain ⟨b1, b2, b3, b4⟩ := hS.c0
      obtain ⟨b5, b6, b7, b8⟩ := hS.c1
      go_simp
      try with_reducible rfl
    simp only [Act.put]
    refine wpAnyH_take (i := 1) (v := ?_) rfl (by kernel_rfl) (by kernel_rfl) (by kernel_rfl) (fun _ _ _ h => h) (Or.inl ⟨by kernel_rfl, ?_⟩) (by assumption) ?_
    rotate_left 1
    · intro w' hS
      have b0 := hS.p1.x
      obtain ⟨b1, b2, b3, b4⟩ := hS.c0
      obtain ⟨b5, b6, b7, b8⟩ := hS.c1
      go_simp
      try with_reducible rfl
    simp only [Act.put]
    refine wpAnyH_take (i := 2) (v := ?_) rfl (by kernel_rfl) (by kernel_rfl) (by kernel_rfl) (fun _ _ _ h => h) (Or.inl ⟨by kernel_rfl, ?_⟩) (by assumption) ?_
    rotate_left 1
    · intro w' hS
      have b0 := hS.p1.x
      obtain ⟨b1, b2, b3, b4⟩ := hS.c0
      obtain ⟨b5, b6, b7, b8⟩ := hS.c1
      go_simp
      try with_reducible rfl
    simp only [Act.put]
    refine wpAnyH_take (i := 3) (v := ?_) rfl (by kernel_rfl) (by kernel_rfl) (by kernel_rfl) (fun _ _ _ h => h) (Or.inl ⟨by kernel_rfl, ?_⟩) (by assumption) ?_
    rotate_left 1
    · intro w' hS
      have b0 := hS.p1.x
      obtain ⟨b1, b2, b3, b4⟩ := hS.c0
      obtain ⟨b5, b6, b7, b8⟩ := hS.c1
      go_simp
      try with_reducible rfl
    simp only [Act.put]
    refine wpAnyH_take (i := 4) (v := ?_) rfl (by kernel_rfl) (by kernel_rfl) (by kernel_rfl) (fun _ _ _ h => h) (Or.inl ⟨by kernel_rfl, ?_⟩) (by assumption) ?_
    rotate_left 1
    · intro w' hS
      have b0 := hS.p1.x
      obtain ⟨b1, b2, b3, b4⟩ := hS.c0
      obtain ⟨b5, b6, b7, b8⟩ := hS.c1
      go_simp
      try with_reducible rfl
    simp only [Act.put]
    refine wpAnyH_take (i := 5) (v := ?_) rfl (by kernel_rfl) (by kernel_rfl) (by kernel_rfl) (fun _ _ _ h => h) (Or.inl ⟨by kernel_rfl, ?_⟩) (by assumption) ?_
    rotate_left 1
    · intro w' hS
      have b0 := hS.p1.x
      obtain ⟨b1, b2, b3, b4⟩ := hS.c0
      obtain ⟨b5, b6, b7, b8⟩ := hS.c1
      go_simp
      try with_reducible rfl
    simp only [Act.put]
    refine wpAnyH_ready (rs := [6]) (by kernel_rfl) (by simp) ?_
    refine AllReadyH.cons rfl (fun K hK => ?_) AllReadyH.nil
    go_simp
    refine (QR.call (by assumption) (likeMethodV m x1 x2 x3 x4 y1 y2 y3 y4 HSM.out _ H6d.r1 H6d.r2 H6d.r3 H6d.r4)).mono ?_
    rintro e v21 ⟨rfl, Q21, z21⟩
    dsimp only
    refine hK.out _ _ (by assumption) (fun _ => ?_)
    clear hK K
    refine wpAnyH_take (i := 7) (v := ?_) rfl (by kernel_rfl) (by kernel_rfl) (by kernel_rfl) (fun _ _ _ h => h) (Or.inl ⟨by kernel_rfl, ?_⟩) (by assumption) ?_
    rotate_left 1
    · intro w' hS
      have b0 := hS.p1.x
      obtain ⟨b1, b2, b3, b4⟩ := hS.c0
      obtain ⟨b5, b6, b7, b8⟩ := hS.c1
      go_simp
      try with_reducible rfl
    simp only [Act.put]
    refine wpAnyH_take (i := 8) (v := ?_) rfl (by kernel_rfl) (by kernel_rfl) (by kernel_rfl) (fun _ _ _ h => h) (Or.inl ⟨by kernel_rfl, ?_⟩) (by assumption) ?_
    rotate_left 1
    · intro w' hS
      have b0 := hS.p1.x
      obtain ⟨b1, b2, b3, b4⟩ := hS.c0
      obtain ⟨b5, b6, b7, b8⟩ := hS.c1
      go_simp
      try with_reducible rfl
    simp only [Act.put]
    refine wpAnyH_take (i := 9) (v := ?_) rfl (by kernel_rfl) (by kernel_rfl) (by kernel_rfl) (fun _ _ _ h => h) (Or.inl ⟨by kernel_rfl, ?_⟩) (by assumption) ?_
    rotate_left 1
    · intro w' hS
      have b0 := hS.p1.x
      obtain ⟨b1, b2, b3, b4⟩ := hS.c0
      obtain ⟨b5, b6, b7, b8⟩ := hS.c1
      go_simp
      try with_reducible rfl
    simp only [Act.put]
    refine wpAnyH_take (i := 10) (v := ?_) rfl (by kernel_rfl) (by kernel_rfl) (by kernel_rfl) (fun _ _ _ h => h) (Or.inl ⟨by kernel_rfl, ?_⟩) (by assumption) ?_
    rotate_left 1
    · intro w' hS
      have b0 := hS.p1.x
      obtain ⟨b1, b2, b3, b4⟩ := hS.c0
      obtain ⟨b5, b6, b7, b8⟩ := hS.c1
      go_simp
      try with_reducible rfl
    simp only [Act.put]
    refine wpAnyH_take (i := 11) (v := ?_) rfl (by kernel_rfl) (by kernel_rfl) (by kernel_rfl) (fun _ _ _ h => h) (Or.inl ⟨by kernel_rfl, ?_⟩) (by assumption) ?_
    rotate_left 1
    · intro w' hS
      have b0 := hS.p1.x
      obtain ⟨b1, b2, b3, b4⟩ := hS.c0
      obtain ⟨b5, b6, b7, b8⟩ := hS.c1
      go_simp
      try with_reducible rfl
    simp only [Act.put]
    refine wpAnyH_take (i := 12) (v := ?_) rfl (by kernel_rfl) (by kernel_rfl) (by kernel_rfl) (fun _ _ _ h => h) (Or.inl ⟨by kernel_rfl, ?_⟩) (by assumption) ?_
    rotate_left 1
    · intro w' hS
      have b0 := hS.p1.x
      obtain ⟨b1, b2, b3, b4⟩ := hS.c0
      obtain ⟨b5, b6, b7, b8⟩ := hS.c1
      go_simp
      try with_reducible rfl
    simp only [Act.put]
    refine wpAnyH_ready (rs := [13]) (by kernel_rfl) (by simp) ?_
    refine AllReadyH.cons rfl (fun K hK => ?_) AllReadyH.nil
    go_simp
    refine (QR.lst (by assumption) (specFieldsOf 0 p _ cp cl HPS.out v21 Q21.p1.kp)).mono ?_
    rw [← HLF.out]
    rintro e v22 ⟨gx, cx, rfl, hgx, hix, Q22, z22⟩
    dsimp only
    refine hK.out _ _ (by assumption) (fun _ => ?_)
    clear hK K
    refine wpAnyH_ready (rs := [14]) (by kernel_rfl) (by simp) ?_
    refine AllReadyH.cons rfl (fun K hK => ?_) AllReadyH.nil
    go_simp
    refine (QR.call (by assumption) (likeSame gf gx cf cx lf (by omega) v22 Q22.fr hix)).mono ?_
    rintro e v23 ⟨rfl, Q23, z23⟩
    dsimp only
    refine hK.out _ _ (by assumption) (fun _ => ?_)
    clear hK K
    refine wpAnyH_take (i := 15) (v := ?_) rfl (by kernel_rfl) (by kernel_rfl) (by kernel_rfl) (fun _ _ _ h => h) (Or.inl ⟨by kernel_rfl, ?_⟩) (by assumption) ?_
    rotate_left 1
    · intro w' hS
      have b0 := hS.p1.x
      obtain ⟨b1, b2, b3, b4⟩ := hS.c0
      obtain ⟨b5, b6, b7, b8⟩ := hS.c1
      go_simp
      try with_reducible rfl
    simp only [Act.put]
    refine wpAnyH_take (i := 16) (v := ?_) rfl (by kernel_rfl) (by kernel_rfl) (by kernel_rfl) (fun _ _ _ h => h) (Or.inl ⟨by kernel_rfl, ?_⟩) (by assumption) ?_
    rotate_left 1
    · intro w' hS
      have b0 := hS.p1.x
      obtain ⟨b1, b2, b3, b4⟩ := hS.c0
      obtain ⟨b5, b6, b7, b8⟩ := hS.c1
      go_simp
      try with_reducible rfl
    simp only [Act.put]
    refine wpAnyH_take (i := 17) (v := ?_) rfl (by kernel_rfl) (by kernel_rfl) (by kernel_rfl) (fun _ _ _ h => h) (Or.inl ⟨by kernel_rfl, ?_⟩) (by assumption) ?_
    rotate_left 1
    · intro w' hS
      have b0 := hS.p1.x
      obtain ⟨b1, b2, b3, b4⟩ := hS.c0
      obtain ⟨b5, b6, b7, b8⟩ := hS.c1
      go_simp
      try with_reducible rfl
    simp only [Act.put]
    refine wpAnyH_take (i := 18) (v := ?_) rfl (by kernel_rfl) (by kernel_rfl) (by kernel_rfl) (fun _ _ _ h => h) (Or.inl ⟨by kernel_rfl, ?_⟩) (by assumption) ?_
    rotate_left 1
    · intro w' hS
      have b0 := hS.p1.x
      obtain ⟨b1, b2, b3, b4⟩ := hS.c0
      obtain ⟨b5, b6, b7, b8⟩ := hS.c1
      go_simp
      try with_reducible rfl
    simp only [Act.put]
    refine wpAnyH_take (i := 19) (v := ?_) rfl (by kernel_rfl) (by kernel_rfl) (by kernel_rfl) (fun _ _ _ h => h) (Or.inl ⟨by kernel_rfl, ?_⟩) (by assumption) ?_
    rotate_left 1
    · intro w' hS
      have b0 := hS.p1.x
      obtain ⟨b1, b2, b3, b4⟩ := hS.c0
      obtain ⟨b5, b6, b7, b8⟩ := hS.c1
      go_simp
      try with_reducible rfl
    simp only [Act.put]
    refine wpAnyH_ready (rs := [20]) (by kernel_rfl) (by simp) ?_
    refine AllReadyH.cons rfl (fun K hK => ?_) AllReadyH.nil
    go_simp
    refine (QR.call (by assumption) (specShowP 0 p _ cp HPS.out v23 Q23.p1.kp)).mono ?_
    rw [← HSS.out]
    rintro e v24 ⟨rfl, Q24, z24⟩
    dsimp only
    refine hK.out _ _ (by assumption) (fun _ => ?_)
    clear hK K
    refine wpAnyH_take (i := 21) (v := ?_) rfl (by kernel_rfl) (by kernel_rfl) (by kernel_rfl) (fun _ _ _ h => h) (Or.inl ⟨by kernel_rfl, ?_⟩) (by assumption) ?_
    rotate_left 1
    · intro w' hS
      have b0 := hS.p1.x
      obtain ⟨b1, b2, b3, b4⟩ := hS.c0
      obtain ⟨b5, b6, b7, b8⟩ := hS.c1
      go_simp
      try with_reducible rfl
    simp only [Act.put]
    refine wpAnyH_take (i := 22) (v := ?_) rfl (by kernel_rfl) (by kernel_rfl) (by kernel_rfl) (fun _ _ _ h => h) (Or.inl ⟨by kernel_rfl, ?_⟩) (by assumption) ?_
    rotate_left 1
    · intro w' hS
      have b0 := hS.p1.x
      obtain ⟨b1, b2, b3, b4⟩ := hS.c0
      obtain ⟨b5, b6, b7, b8⟩ := hS.c1
      go_simp
      try with_reducible rfl
    simp only [Act.put]
    refine wpAnyH_take (i := 23) (v := ?_) rfl (by kernel_rfl) (by kernel_rfl) (by kernel_rfl) (fun _ _ _ h => h) (Or.inl ⟨by kernel_rfl, ?_⟩) (by assumption) ?_
    rotate_left 1
    · intro w' hS
      have b0 := hS.p1.x
      obtain ⟨b1, b2, b3, b4⟩ := hS.c0
      obtain ⟨b5, b6, b7, b8⟩ := hS.c1
      go_simp
      try with_reducible rfl
    simp only [Act.put]
    refine wpAnyH_take (i := 24) (v := ?_) rfl (by kernel_rfl) (by kernel_rfl) (by kernel_rfl) (fun _ _ _ h => h) (Or.inl ⟨by kernel_rfl, ?_⟩) (by assumption) ?_
    rotate_left 1
    · intro w' hS
      have b0 := hS.p1.x
      obtain ⟨b1, b2, b3, b4⟩ := hS.c0
      obtain ⟨b5, b6, b7, b8⟩ := hS.c1
      go_simp
      try with_reducible rfl
    simp only [Act.put]
    refine wpAnyH_take (i := 26) (v := ?_) rfl (by kernel_rfl) (by kernel_rfl) (by kernel_rfl) (fun _ _ _ h => h) (Or.inl ⟨by kernel_rfl, ?_⟩) (by assumption) ?_
    rotate_left 1
    · intro w' hS
      have b0 := hS.p1.x
      obtain ⟨b1, b2, b3, b4⟩ := hS.c0
      obtain ⟨b5, b6, b7, b8⟩ := hS.c1
      go_simp
      try with_reducible rfl
    simp only [Act.put]
    refine wpAnyH_ready (rs := [25]) (by kernel_rfl) (by simp) ?_
    refine AllReadyH.cons rfl (fun K hK => ?_) AllReadyH.nil
    go_simp
    refine (QR.call (by assumption) (implProgramOk 0 p _ cp HPS.out v24 Q24.p1.kp)).mono ?_
    rw [← HOK.out]
    rintro e v25 ⟨rfl, Q25, z25⟩
    dsimp only
    refine hK.out _ _ (by assumption) (fun _ => ?_)
    clear hK K
    refine wpAnyH_ready (rs := [27]) (by kernel_rfl) (by simp) ?_
    refine AllReadyH.cons rfl (fun K hK => ?_) AllReadyH.nil
    go_simp
    refine (QR.call (by assumption) (specProgramOk 0 p _ cp HPS.out v25 Q25.p1.kp)).mono ?_
    rw [← HOK.out]
    rintro e v26 ⟨rfl, Q26, z26⟩
    dsimp only
    refine hK.out _ _ (by assumption) (fun _ => ?_)
    clear hK K
    refine wpAnyH_take (i := 28) (v := ?_) rfl (by kernel_rfl) (by kernel_rfl) (by kernel_rfl) (fun _ _ _ h => h) (Or.inl ⟨by kernel_rfl, ?_⟩) (by assumption) ?_
    rotate_left 1
    · intro w' hS
      have b0 := hS.p1.x
      obtain ⟨b1, b2, b3, b4⟩ := hS.c0
      obtain ⟨b5, b6, b7, b8⟩ := hS.c1
      go_simp
      try with_reducible rfl
    simp only [Act.put]
    refine wpAnyH_take (i := 29) (v := ?_) rfl (by kernel_rfl) (by kernel_rfl) (by kernel_rfl) (fun _ _ _ h => h) (Or.inl ⟨by kernel_rfl, ?_⟩) (by assumption) ?_
    rotate_left 1
    · intro w' hS
      have b0 := hS.p1.x
      obtain ⟨b1, b2, b3, b4⟩ := hS.c0
      obtain ⟨b5, b6, b7, b8⟩ := hS.c1
      go_simp
      try with_reducible rfl
    simp only [Act.put]
    refine wpAnyH_take (i := 30) (v := ?_) rfl (by kernel_rfl) (by kernel_rfl) (by kernel_rfl) (fun _ _ _ h => h) (Or.inl ⟨by kernel_rfl, ?_⟩) (by assumption) ?_
    rotate_left 1
    · intro w' hS
      have b0 := hS.p1.x
      obtain ⟨b1, b2, b3, b4⟩ := hS.c0
      obtain ⟨b5, b6, b7, b8⟩ := hS.c1
      go_simp
      try with_reducible rfl
    simp only [Act.put]
    refine wpAnyH_take (i := 31) (v := ?_) rfl (by kernel_rfl) (by kernel_rfl) (by kernel_rfl) (fun _ _ _ h => h) (Or.inl ⟨by kernel_rfl, ?_⟩) (by assumption) ?_
    rotate_left 1
    · intro w' hS
      have b0 := hS.p1.x
      obtain ⟨b1, b2, b3, b4⟩ := hS.c0
      obtain ⟨b5, b6, b7, b8⟩ := hS.c1
      go_simp
      try with_reducible rfl
    simp only [Act.put]
    refine wpAnyH_take (i := 33) (v := ?_) rfl (by kernel_rfl) (by kernel_rfl) (by kernel_rfl) (fun _ _ _ h => h) (Or.inl ⟨by kernel_rfl, ?_⟩) (by assumption) ?_
    rotate_left 1
    · intro w' hS
      have b0 := hS.p1.x
      obtain ⟨b1, b2, b3, b4⟩ := hS.c0
      obtain ⟨b5, b6, b7, b8⟩ := hS.c1
      go_simp
      try with_reducible rfl
    simp only [Act.put]
    refine wpAnyH_ready (rs := [32]) (by kernel_rfl) (by simp) ?_
    refine AllReadyH.cons rfl (fun K hK => ?_) AllReadyH.nil
    go_simp
    refine (QR.call (by assumption) (implBulkS 0 p _ cp HPS.out v26 Q26.p1.kp)).mono ?_
    rw [← HBK.out]
    rintro e v27 ⟨rfl, Q27, z27⟩
    dsimp only
    refine hK.out _ _ (by assumption) (fun _ => ?_)
    clear hK K
    refine wpAnyH_ready (rs := [34]) (by kernel_rfl) (by simp) ?_
    refine AllReadyH.cons rfl (fun K hK => ?_) AllReadyH.nil
    go_simp
    refine (QR.call (by assumption) (specBulkS 0 p _ cp HPS.out v27 Q27.p1.kp)).mono ?_
    rw [← HBK.out]
    rintro e v28 ⟨rfl, Q28, z28⟩
    dsimp only
    refine hK.out _ _ (by assumption) (fun _ => ?_)
    clear hK K
    refine wpAnyH_take (i := 35) (v := ?_) rfl (by kernel_rfl) (by kernel_rfl) (by kernel_rfl) (fun _ _ _ h => h) (Or.inl ⟨by kernel_rfl, ?_⟩) (by assumption) ?_
    rotate_left 1
    · intro w' hS
      have b0 := hS.p1.x
      obtain ⟨b1, b2, b3, b4⟩ := hS.c0
      obtain ⟨b5, b6, b7, b8⟩ := hS.c1
      go_simp
      try with_reducible rfl
    simp only [Act.put]
    refine wpAnyH_take (i := 36) (v := ?_) rfl (by kernel_rfl) (by kernel_rfl) (by kernel_rfl) (fun _ _ _ h => h) (Or.inl ⟨by kernel_rfl, ?_⟩) (by assumption) ?_
    rotate_left 1
    · intro w' hS
      have b0 := hS.p1.x
      obtain ⟨b1, b2, b3, b4⟩ := hS.c0
      obtain ⟨b5, b6, b7, b8⟩ := hS.c1
      go_simp
      try with_reducible rfl
    simp only [Act.put]
    refine wpAnyH_done (by kernel_rfl) ?_ _
    go_simp
    refine hKK _ _ (Met.intro (hJ _ _ ?_))
    (repeat apply Exists.intro)
    exact ⟨⟨rfl, by assumption⟩, rfl⟩
  case rest =>
    obtain ⟨rfl, H7⟩ := hcut
    clear H6 H6d hni hno hnk
    obtain ⟨e0, e1, e2, e3⟩ := H7.c0
    have z7 := H7.p1.x
    have HGO : Hid (∀ u, QR w pb gp cp p gf lf mb xb m x1 x2 x3 x4 y1 y2 y3 y4 u → QR w pb gp cp p gf lf mb xb m x1 x2 x3 x4 y1 y2 y3 y4 u) := fun _ h => h
    have hmx : is = true → (m.name != nm) = false := fun h => by rw [HMN.out h]; simp
    cases is
    all_goals
      try (have hmy := hmx rfl)
      clear hmx
      go_wp2_with fail
      refine (QR.call H7 (specProgramOk 0 p _ cp HPS.out wc H7.p1.kp)).mono ?_
      rw [← HOK.out]
      rintro e u8 ⟨rfl, H8, z8⟩
      try clear hmy
      clear H7 z7 e0 e1 e2 e3
      cases ok
      · have hSn : S = ⟨#[]⟩ := by
          rw [HSS.out]
          have h := HOK.out
          simp [shownP, ← h]
        have hlf0 : lf = [] := by rw [HLF.out]; exact fieldsF_no HOK.out.symm
        have hbk0 : bk = -1 := by
          rw [HBK.out]
          have h := HOK.out
          simp [bulkF, ← h]
        subst hSn
        subst hlf0
        subst hbk0
        go_wp2_with fail
        refine (QR.call H8 (implBulkS 0 p _ cp HPS.out u8 H8.p1.kp)).mono ?_
        rw [← HBK.out]
        rintro e u9 ⟨rfl, H9, z9⟩
        go_wp2
        go_ret
        exact ⟨rfl, H9.p1.bl⟩
      · have hok : Hid (okP p = true) := HOK.out.symm
        have hszp : szP p ≤ 100000 := ok_size hok.out
        have hbn : bulkN p ≤ 100000 := Nat.le_trans (bulkN_le p) hszp
        have HBN : Hid (bk = (bulkN p : Int)) := by
          have h := HOK.out
          show bk = _
          rw [HBK.out]
          simp [bulkF, ← h]
        have HMN' : Hid (metN p ≤ 100) := met_small hok.out
        have HSZ : Hid (S.size ≤ 40000 ∧ S.data.toList.count 10 = p.length + metN p) := by
          have h := HOK.out
          have e : S = ⟨(progT p).toArray⟩ := by rw [HSS.out]; simp [shownP, ← h]
          show _ ∧ _
          rw [e]
          exact ⟨by have := prog_len hok.out; simpa [ByteArray.size] using this, by simpa using prog_count hok.out⟩
        go_wp2
        go_loopw [14, 15, 16] (fun nv bv i wr => ∃ k n b : Nat, k ≤ p.length ∧ i = .int .i64 k ∧ nv = .int .i64 n ∧ bv = .int .i64 b ∧ Hid (n = p.length + metN (p.take k)) ∧ Hid (b = bulkN (p.take k)) ∧ QR w pb gp cp p gf lf mb xb m x1 x2 x3 x4 y1 y2 y3 y4 wr) (fun _ _ i _ => p.length - (intOf i).toNat)
        case atStart => exact ⟨0, p.length, 0, Nat.zero_le _, rfl, rfl, rfl, by show _ = _; simp [metN, sumN], by show _ = _; simp [bulkN, sumN], H8⟩
        case round =>
          obtain ⟨k, n, b, hk, rfl, rfl, rfl, hn, hbb, HI⟩ := hrel
          clear H8 z8
          have zz := HI.p1.x
          have hnn : n ≤ 200 := by have h1 := hn.out; have h2 := met_take p k; have h3 := HMN'.out; omega
          have hb0 : b ≤ 100000 := by have h1 := hbb.out; have h2 := bulk_take p k; omega
          by_cases hlt : k < p.length
          · have hki : (k : Int) < (p.length : Int) := by omega
            have hk0 : (0 : Int) ≤ (k : Int) := by omega
            have HMS : Hid (metN (p.take (k + 1)) = metN (p.take k) + p[k].meths.length) := met_step hlt
            have HBS : Hid (bulkN (p.take (k + 1)) = bulkN (p.take k) + codeSum p[k].meths) := bulk_step hlt
            have hcs : b + codeSum p[k].meths ≤ 100000 := by have h1 := hbb.out; have h2 := HBS.out; have h3 := bulk_take p (k + 1); omega
            have hcm : p[k].meths.length ≤ 100 := by have h1 := HMS.out; have h2 := met_take p (k + 1); have h3 := HMN'.out; omega
            obtain ⟨bb, o, he, _, vf, vm, d0, d1, d2, hcv⟩ := HI.p1.kp.get hlt
            injection he with he
            injection he with he1 he2
            subst he1
            subst he2
            obtain ⟨z1, t1, rfl⟩ := hcv.1.form
            obtain ⟨z2, t2, rfl⟩ := hcv.2.form
            have HM : Hid (SM front 0 wr (.slice z2 p[k].meths.length t2) p[k].meths) := hcv.2
            generalize p[k] = c at *
            clear hcv d0 d1
            simp only [Nat.zero_add] at d2
            go_wp2
            go_loopw [15, 17] (fun bv j wm => ∃ h b' : Nat, h ≤ c.meths.length ∧ j = .int .i64 h ∧ bv = .int .i64 b' ∧ Hid (b' = b + codeSum (c.meths.take h)) ∧ wm = wr) (fun _ j _ => c.meths.length - (intOf j).toNat)
            case atStart => exact ⟨0, b, Nat.zero_le _, rfl, rfl, by show _ = _; simp [codeSum, sumN], rfl⟩
            case round =>
              obtain ⟨h, b', hh, rfl, rfl, hb', rfl⟩ := hrel
              by_cases hhl : h < c.meths.length
              · have hhi : (h : Int) < (c.meths.length : Int) := by omega
                have hh0 : (0 : Int) ≤ (h : Int) := by omega
                have HCS : Hid (codeSum (c.meths.take (h + 1)) = codeSum (c.meths.take h) + c.meths[h].code.length) := code_step hhl
                have hcl : b' + c.meths[h].code.length ≤ 100000 := by have h1 := HCS.out; have h2 := code_take c.meths (h + 1); have h3 := hb'.out; omega
                obtain ⟨bm, om, rfl, _, va, vc, m0, m1, m2, m3, hmv⟩ := HM.out.get hhl
                obtain ⟨gc, yc, rfl, _⟩ := hmv.2
                generalize c.meths[h] = mm at *
                clear hmv m0 m1 m2
                go_wp2
                go_roundw
                case rel => exact ⟨h + 1, b' + mm.code.length, by omega, by go_num, by go_num, by show _ = _; have h1 := HCS.out; have h2 := hb'.out; omega, by first | trivial | rfl⟩
                case measure => simp [intOf]; omega
              · have hhi : ¬ (h : Int) < (c.meths.length : Int) := by omega
                have HE : Hid (b' = bulkN (p.take (k + 1))) := by
                  show _ = _
                  have h1 := hb'.out
                  rw [List.take_of_length_le (show c.meths.length ≤ h by omega)] at h1
                  have h2 := HBS.out
                  have h3 := hbb.out
                  omega
                have HE2 : Hid (n + c.meths.length = p.length + metN (p.take (k + 1))) := by
                  show _ = _
                  have h1 := HMS.out
                  have h2 := hn.out
                  omega
                go_wp2
                go_roundw
                case rel => exact ⟨k + 1, n + c.meths.length, b', by omega, by go_num, by go_num, rfl, HE2.out, HE.out, HI⟩
                case measure => simp [intOf]; omega
          · have hki : ¬ (k : Int) < (p.length : Int) := by omega
            have hke : p.take k = p := List.take_of_length_le (by omega)
            have HNN : Hid (S.data.toList.count 10 = n) := by
              show _ = _
              have h1 := hn.out
              rw [hke] at h1
              rw [HSZ.out.2, h1]
            have HBB : Hid (bk = (b : Int)) := by
              show _ = _
              have h1 := hbb.out
              rw [hke] at h1
              rw [HBN.out, h1]
            have hSS := HSZ.out.1
            clear hke hn hbb
            go_wp2_with fail
            refine (lines_len S (by omega) wr).mono ?_
            rw [HNN.out]
            rintro e u10 ⟨al, c10, rfl, hb10⟩
            have H10 := HI.on hb10
            have z10 := H10.p1.x
            clear hb10
            go_wp2_with fail
            refine (QR.call H10 (implBulkS 0 p _ cp HPS.out u10 H10.p1.kp)).mono ?_
            rw [← HBK.out, HBB.out]
            rintro e u11 ⟨rfl, H11, z11⟩
            clear H10 z10 HI zz
            by_cases hneg : cl < 0
            · have hlf0 : lf = [] := by rw [HLF.out]; exact fieldsF_out (.inl hneg)
              subst hlf0
              go_wp2
              go_ret
              exact ⟨rfl, H11.p1.bl⟩
            · by_cases hge : (p.length : Int) ≤ cl
              · have hlf0 : lf = [] := by rw [HLF.out]; exact fieldsF_out (.inr hge)
                subst hlf0
                go_wp2
                go_ret
                exact ⟨rfl, H11.p1.bl⟩
              · obtain ⟨uc, rfl⟩ := Int.eq_ofNat_of_zero_le (show 0 ≤ cl by omega)
                have huc : uc < p.length := by omega
                have HUP : Hid (fieldsF p (uc : Int) = fieldsF p p[uc].super ++ p[uc].fields) := fieldsF_up hok.out huc
                obtain ⟨b, o, he, _, vf, vm, d0, d1, d2, hcv⟩ := H11.p1.kp.get huc
                injection he with he
                injection he with he1 he2
                subst he1
                subst he2
                obtain ⟨z1, t1, rfl⟩ := hcv.1.form
                have HI11 : Hid (SI true 0 u11 (.slice z1 p[uc].fields.length t1) p[uc].fields) := hcv.1
                have hfl := (few_of hok.out huc).flen
                generalize p[uc] = c at *
                clear hcv d2
                simp only [Nat.zero_add] at d0 d1
                have hu1 : (uc : Int) < (p.length : Int) := by omega
                have hu0 : (0 : Int) ≤ (uc : Int) := by omega
                obtain ⟨lu, hlu⟩ : ∃ lu, lu = fieldsF p c.super := ⟨_, rfl⟩
                have hlul : lu.length ≤ 24 := by rw [hlu]; exact fieldsF_len p c.super
                have HLU : Hid (lu = fieldsF p c.super) := hlu
                have H11d := H11.on (Below.refl _ _).drew
                clear hlu
                go_wp2_with fail
                go_region_with (go_at_call 6; refine (implFieldsOf 0 p _ cp c.super HPS.out _ H11d.p1.kp).mono ?_; rw [← HLU.out]; rintro e u12 ⟨v12, rfl, hg12', hb12⟩; have hg12 : Hid (Grow u11.drew.heap.size u12 v12 lu) := hg12'; clear hg12'; obtain ⟨gu, cu, rfl⟩ := growForm hg12.out)
                all_goals
                  have hb12' : Below u11.heap.size u11 u12 := below_over (Below.refl _ _).drew hb12
                  have H12 := H11.on hb12'
                  have HI12 : Hid (SI true 0 u12 (.slice z1 c.fields.length t1) c.fields) := SI.on HI11.out (Keep.of hb12')
                  clear hb12 hb12' H11 H11d d0 d1 z11 HI11
                  go_wp2_with (at_builtin; refine wpList_grow rfl _ _ rfl u12.heap.size _ [] rfl (grow_nil1 u12 u12.heap.size (Nat.le_refl _)) (by simp) (some ⟨gu, 0, none⟩) cu 0 lu rfl (SI.weak (growOn hg12.out (allocBelow _ _)).gint.si (Nat.zero_le _)) (by simp; omega) ?_)
                  intro v13 w13 hg13 hk13
                  have hg13' : Grow u12.heap.size w13 v13 lu := by simpa using hg13
                  obtain ⟨g13, c13, rfl⟩ := growForm hg13'
                  have HG13 : Hid (Grow u12.heap.size w13 (.slice (some ⟨g13, 0, none⟩) lu.length c13) lu) := hg13'
                  have hb13 : Below u12.heap.size u12 w13 := (allocBelow _ _).trans hk13.below
                  have HI13 : Hid (SI true 0 w13 (.slice z1 c.fields.length t1) c.fields) := SI.on HI12.out (Keep.of hb13)
                  clear hg13 hg13' hk13 HI12 hg12
                  go_wp2_with (at_builtin; refine wpList_grow rfl _ _ rfl u12.heap.size (.slice (some ⟨g13, 0, none⟩) lu.length c13) lu (by simp [Act.eval]) HG13.out hb13.size z1 t1 0 c.fields rfl HI13.out (by omega) ?_)
                  intro v14 w14 hg14 hk14
                  have e14 : lf = lu ++ c.fields := by rw [HLF.out, HUP.out, HLU.out]
                  rw [← e14] at hg14
                  have hb14 : Below u12.heap.size u12 w14 := hb13.trans hk14.below
                  have H14 := H12.on hb14
                  obtain ⟨g14, c14, hv14, _, _, hi14, _⟩ := hg14.gint
                  subst hv14
                  have HI14 : Hid (IRow w14 g14 0 lf) := hi14
                  clear hg14 hk14 hi14 e14 hb13 hb14 H12 HG13 HI13
                  go_wp2_with fail
                  refine (QR.call H14 (likeSame gf g14 cf c14 lf (by omega) w14 H14.fr HI14.out)).mono ?_
                  rintro e u15 ⟨rfl, H15, _⟩
                  go_wp2
                  go_ret
                  exact ⟨rfl, H15.p1.bl⟩
end Pg
end Go.Proofs.YtbgbddahniacbaaGreatDoor
