/- How a machine begins: the specification's Started. -/
import Derived.Test.YtffkkhaiedhaiaaJMc0
namespace Go.Proofs.Ytffkkhaiedhaiaa
namespace Pg
open Go.ChangeShapes Go.WideShapes Go.ChangeAt Go.RowKit St

set_option maxRecDepth 100000 in
set_option maxHeartbeats 2000000 in
theorem l8Start_at (B : Nat) (p : Prg) (b o cap : Nat) (hok : okP p = true) (w : World) (hp : SK front B w (.slice (some ⟨b, o, none⟩) p.length cap) p) :
    Calls Try.prog 53 #[.agg #[.slice (some ⟨b, o, none⟩) p.length cap]] w fun e w' => ∃ a1 a2, e = .returned (.agg #[.slice a1 1 1, .slice a2 1 1, .slice none 0 0, .int .i64 0, .int .i64 0]) ∧ MZ (fun k => w.heap.size ≤ k ∧ k < w'.heap.size) w' (.slice a1 1 1) (.slice a2 1 1) (.slice none 0 0) (startM p) ∧ Below w.heap.size w w' := by
  have hpl := (okP_len hok).1
  obtain ⟨fl, hfl⟩ : ∃ fl, fl = (fieldsR p 6 0).map valF := ⟨_, rfl⟩
  have HFL : Hid (fl = (fieldsR p 6 0).map valF) := hfl
  have HCO : Hid (∀ u, Below w.heap.size w u → Calls Try.prog 82 #[.agg #[.slice (some ⟨b, o, none⟩) p.length cap], .int .i64 0] u fun e w' => ∃ x y, e = .returned (.agg #[.int .i64 0, .slice x fl.length y]) ∧ VZ (fun k => u.heap.size < k ∧ k < w'.heap.size) w' (.slice x fl.length y) fl ∧ Below u.heap.size u w') := fun u hu => by
    rw [hfl]
    exact l8New_at B p b o cap 0 hok (by omega) u (SK.on hp (Keep.of hu))
  clear hfl hp hok
  obtain ⟨W, hW⟩ : ∃ W, W = (w.alloc (.cells #[.slice (some ⟨b, o, none⟩) p.length cap] 39)).alloc (.cells #[.slice none 0 0, .slice none 0 0, .slice none 0 0, .int .i64 0, .int .i64 0] 44) := ⟨_, rfl⟩
  have hwW : Below w.heap.size w W := by rw [hW]; exact ((Below.refl _ _).alloc (Nat.le_refl _) _).alloc (by simp) _
  have R0 : Hid (Cells W (w.heap.size + 1) [.slice none 0 0, .slice none 0 0, .slice none 0 0, .int .i64 0, .int .i64 0]) := by rw [hW]; exact Cells.new (w.alloc _) _ (by simp) _ _
  have HZ : Hid (W.heap.size = w.heap.size + 1 + 1) := by rw [hW]; show _ = _; simp
  go_enter Try.func53, Try.ntmps53
  go_wp2_with fail
  rw [← hW]
  clear hW
  refine (HCO.out _ hwW).mono ?_
  rintro e w1 ⟨x3, y3, rfl, hv1, hb1⟩
  have hw1 : Below w.heap.size w w1 := below_over hwW hb1
  have HV1 : Hid (VZ (fun k => W.heap.size < k ∧ k < w1.heap.size) w1 (.slice x3 fl.length y3) fl) := hv1
  have R1 : Hid (Cells w1 (w.heap.size + 1) [.slice none 0 0, .slice none 0 0, .slice none 0 0, .int .i64 0, .int .i64 0]) := R0.out.on hb1
  have hz1 : W.heap.size ≤ w1.heap.size := hb1.size
  have HSL : Hid (SV true 0 ((w1.alloc (.cells #[.int .i64 0, .slice x3 fl.length y3] 118)).alloc (.cells #[.int .i64 2, .int .i64 0] 57)) (.slice (some ⟨w1.heap.size + 1, 0, none⟩) ([(2, 0)] : List Vl).length 1) [(2, 0)]) := by
    refine ⟨_, 1, rfl, fun _ h => by simp at h, fun _ => ⟨w1.heap.size + 1, 0, rfl, Nat.zero_le _, ⟨by simp, fun _ j hj => ?_⟩, fun j x hj => ?_⟩⟩
    · simp [go_sem]
    · match j with
      | 0 => simp at hj; subst hj; exact ⟨by simp [go_sem], by simp [go_sem]⟩
      | j + 1 => simp at hj
  clear hv1 hb1 R0 HCO
  go_wp2_with fail
  refine (l8Frame_at 0 0 0 ⟨w1.heap.size + 1, 0, none⟩ 1 [(2, 0)] (by simp) _ HSL.out).mono ?_
  rintro e w2 ⟨x, y, rfl, hv2, hb2⟩
  have hba : Below w1.heap.size w1 ((w1.alloc (.cells #[.int .i64 0, .slice x3 fl.length y3] 118)).alloc (.cells #[.int .i64 2, .int .i64 0] 57)) := ((Below.refl _ _).alloc (Nat.le_refl _) _).alloc (by simp) _
  have hz2 : w1.heap.size + 1 + 1 ≤ w2.heap.size := by have := hb2.size; simpa using this
  have hw12 : Below w1.heap.size w1 w2 := below_over hba hb2
  have CH : Hid (Cells w2 w1.heap.size [.int .i64 0, .slice x3 fl.length y3]) := ((Cells.new w1 _ rfl _ _).alloc _).on hb2
  have HV2 : Hid (VZ (fun k => w1.heap.size + 1 + 1 < k ∧ k < w2.heap.size) w2 (.slice x 8 y) (frmV [(2, 0)])) := hv2.weak fun k hk => ⟨by have := hk.1; simp at this; omega, hk.2⟩
  obtain ⟨V, hV⟩ : ∃ V, V = w2.alloc (.cells #[.int .i64 0, .int .i64 0, .int .i64 0, .slice none 0 0, .slice x 8 y] 49) := ⟨_, rfl⟩
  have hbV : Below w2.heap.size w2 V := by rw [hV]; exact (Below.refl _ _).alloc (Nat.le_refl _) _
  have hVs : V.heap.size = w2.heap.size + 1 := by rw [hV]; simp
  have hVw : Below w.heap.size w V := below_over (below_over hw1 hw12) hbV
  have C1 : Hid (Cells V w1.heap.size [.int .i64 0, .slice x3 fl.length y3]) := CH.out.on hbV
  have C2 : Hid (Cells V w2.heap.size [.int .i64 0, .int .i64 0, .int .i64 0, .slice none 0 0, .slice x 8 y]) := by rw [hV]; exact Cells.new w2 _ rfl _ _
  have F1 : Hid (VZ (fun k => W.heap.size < k ∧ k < w1.heap.size) V (.slice x3 fl.length y3) fl) := (HV1.out.on hw12).on hbV
  have G1 : Hid (VZ (fun k => w1.heap.size + 1 + 1 < k ∧ k < w2.heap.size) V (.slice x 8 y) (frmV [(2, 0)])) := HV2.out.on hbV
  have RV : Hid (Cells V (w.heap.size + 1) [.slice none 0 0, .slice none 0 0, .slice none 0 0, .int .i64 0, .int .i64 0]) := (R1.out.on hw12).on hbV
  obtain ⟨r0, q0⟩ := RV.out.g0
  obtain ⟨r1, q1⟩ := RV.out.g1
  obtain ⟨r2, q2⟩ := RV.out.g2
  obtain ⟨r3, q3⟩ := RV.out.g3
  obtain ⟨r4, q4⟩ := RV.out.g4
  have R5 := (((((RV.out.s0 (.slice (some ⟨w1.heap.size, 0, none⟩) 1 1)).s1 (.slice (some ⟨w2.heap.size, 0, none⟩) 1 1)).s2 (.slice none 0 0)).s3 (.int .i64 0)).s4 (.int .i64 0))
  obtain ⟨e0, _⟩ := R5.g0
  obtain ⟨e1, _⟩ := R5.g1
  obtain ⟨e2, _⟩ := R5.g2
  obtain ⟨e3, _⟩ := R5.g3
  obtain ⟨e4, _⟩ := R5.g4
  have HT : Hid (Tch (fun k => k = w.heap.size + 1) V (((((V.setCell ⟨w.heap.size + 1, 0, none⟩ (.slice (some ⟨w1.heap.size, 0, none⟩) 1 1)).setCell ⟨w.heap.size + 1, 1, none⟩ (.slice (some ⟨w2.heap.size, 0, none⟩) 1 1)).setCell ⟨w.heap.size + 1, 2, none⟩ (.slice none 0 0)).setCell ⟨w.heap.size + 1, 3, none⟩ (.int .i64 0)).setCell ⟨w.heap.size + 1, 4, none⟩ (.int .i64 0))) := (((((Tch.set (S := fun k => k = w.heap.size + 1) V (p := ⟨w.heap.size + 1, 0, none⟩) rfl (.slice (some ⟨w1.heap.size, 0, none⟩) 1 1)).trans (Tch.set (S := fun k => k = w.heap.size + 1) _ (p := ⟨w.heap.size + 1, 1, none⟩) rfl (.slice (some ⟨w2.heap.size, 0, none⟩) 1 1))).trans (Tch.set (S := fun k => k = w.heap.size + 1) _ (p := ⟨w.heap.size + 1, 2, none⟩) rfl (.slice none 0 0))).trans (Tch.set (S := fun k => k = w.heap.size + 1) _ (p := ⟨w.heap.size + 1, 3, none⟩) rfl (.int .i64 0))).trans (Tch.set (S := fun k => k = w.heap.size + 1) _ (p := ⟨w.heap.size + 1, 4, none⟩) rfl (.int .i64 0)))
  have HVS : Hid (V.heap.size = w2.heap.size + 1) := hVs
  clear R5 hv2 hb2 hba hw12 CH HV2 HV1 R1 hbV hVs
  rw [hV] at r0 q0 r1 q1 r2 q2 r3 q3 r4 q4 e0 e1 e2 e3 e4
  go_wp2
  rw [← hV]
  rw [← hV] at e0 e1 e2 e3 e4
  refine bodyPost_ret (v := .agg #[.slice (some ⟨w1.heap.size, 0, none⟩) 1 1, .slice (some ⟨w2.heap.size, 0, none⟩) 1 1, .slice none 0 0, .int .i64 0, .int .i64 0]) (by simp [results, Try.results53, go_sem, e0, e1, e2, e3, e4]) rfl ?_
  have hzz := HZ.out
  have hvv := HVS.out
  refine ⟨_, _, rfl, MZ.start HFL.out C1.out F1.out C2.out G1.out (b := w.heap.size + 1) (fun k hk => ⟨by omega, by omega⟩) (fun k hk => ⟨by omega, by omega⟩) (fun k hk hk2 => by omega) (by omega) (by omega) (by omega) (by omega) (by omega) (by omega) (by omega) HT.out (by omega), hVw.trans (HT.out.below hVw.size (fun k hk => by omega))⟩
set_option maxRecDepth 100000 in
set_option maxHeartbeats 2000000 in
theorem specStarted (B : Nat) (p : Prg) (a : Option Addr) (cap : Nat) (hs : SmallP p) (w : World) (hp : SK front B w (.slice a p.length cap) p) :
    Calls Try.prog 22 #[.agg #[.slice a p.length cap]] w fun e w' => StdAns (startF p).1 (startF p).2 w e w' := by
  have HP : Hid (SK front B w (.slice a p.length cap) p) := hp
  have HS : Hid (SmallP p) := hs
  clear hp hs
  obtain ⟨W, hW⟩ : ∃ W, W = (w.alloc (.cells #[.slice a p.length cap] 39)).alloc (.cells #[.slice none 0 0, .slice none 0 0, .slice none 0 0, .int .i64 0, .int .i64 0] 44) := ⟨_, rfl⟩
  have hwW : Below w.heap.size w W := by rw [hW]; exact ((Below.refl _ _).alloc (Nat.le_refl _) _).alloc (by simp) _
  have P0 : Hid (Cells W w.heap.size [.slice a p.length cap]) := by rw [hW]; exact (Cells.new w _ rfl _ _).alloc _
  have R0 : Hid (Cells W (w.heap.size + 1) [.slice none 0 0, .slice none 0 0, .slice none 0 0, .int .i64 0, .int .i64 0]) := by rw [hW]; exact Cells.new (w.alloc _) _ (by simp) _ _
  have HZ : Hid (W.heap.size = w.heap.size + 1 + 1) := by rw [hW]; show _ = _; simp
  go_enter Try.func22, Try.ntmps22
  go_wp2_with fail
  rw [← hW]
  clear hW
  refine (specProgramOk B p a cap HS.out _ (SK.on HP.out (Keep.of hwW))).mono ?_
  rintro e w1 ⟨rfl, hb1⟩
  have hw1 : Below w.heap.size w w1 := below_over hwW hb1
  have P1 : Hid (Cells w1 w.heap.size [.slice a p.length cap]) := P0.out.on hb1
  have R1 : Hid (Cells w1 (w.heap.size + 1) [.slice none 0 0, .slice none 0 0, .slice none 0 0, .int .i64 0, .int .i64 0]) := R0.out.on hb1
  have hz1 : w.heap.size + 1 + 1 ≤ w1.heap.size := by have := HZ.out; have := hb1.size; omega
  clear hb1
  cases hok : okP p
  · have HF : Hid (startF p = (zeroM, false)) := by show _ = _; simp [startF, hok]
    obtain ⟨r0, q0⟩ := R1.out.g0
    obtain ⟨r1, q1⟩ := R1.out.g1
    obtain ⟨r2, q2⟩ := R1.out.g2
    obtain ⟨r3, q3⟩ := R1.out.g3
    obtain ⟨r4, q4⟩ := R1.out.g4
    have R5 := ((((R1.out.s0 (.slice none 0 0)).s1 (.slice none 0 0)).s2 (.slice none 0 0)).s3 (.int .i64 0)).s4 (.int .i64 0)
    obtain ⟨e0, _⟩ := R5.g0
    obtain ⟨e1, _⟩ := R5.g1
    obtain ⟨e2, _⟩ := R5.g2
    obtain ⟨e3, _⟩ := R5.g3
    obtain ⟨e4, _⟩ := R5.g4
    clear R5 hok
    go_wp2
    refine bodyPost_ret (v := .tuple #[.agg #[.slice none 0 0, .slice none 0 0, .slice none 0 0, .int .i64 0, .int .i64 0], .bool false]) (by simp [results, Try.results22, go_sem, e0, e1, e2, e3, e4]) rfl ?_
    rw [HF.out]
    refine ⟨none, 0, none, 0, none, 0, rfl, MZ.zero _ _, ?_⟩
    exact ((((hw1.setCell (p := ⟨w.heap.size + 1, 0, none⟩) (by simp) _).setCell (p := ⟨w.heap.size + 1, 1, none⟩) (by simp) _).setCell (p := ⟨w.heap.size + 1, 2, none⟩) (by simp) _).setCell (p := ⟨w.heap.size + 1, 3, none⟩) (by simp) _).setCell (p := ⟨w.heap.size + 1, 4, none⟩) (by simp) _
  · have HF : Hid (startF p = (startM p, true)) := by show _ = _; simp [startF, hok]
    have HOK : Hid (okP p = true) := hok
    have hpl := (okP_len hok).1
    obtain ⟨p0, _⟩ := P1.out.g0
    obtain ⟨b, o, rfl, _⟩ := HP.out.get (k := 0) (by omega)
    clear hok
    go_wp2_with fail
    refine (l8Start_at B p b o cap HOK.out _ (SK.on HP.out (Keep.of hw1))).mono ?_
    rintro e w2 ⟨a1, a2, rfl, hm2, hb2⟩
    have hw2 : Below w.heap.size w w2 := below_over hw1 hb2
    have HM2 : Hid (MZ (fun k => w1.heap.size ≤ k ∧ k < w2.heap.size) w2 (.slice a1 1 1) (.slice a2 1 1) (.slice none 0 0) (startM p)) := hm2
    have R2 : Hid (Cells w2 (w.heap.size + 1) [.slice none 0 0, .slice none 0 0, .slice none 0 0, .int .i64 0, .int .i64 0]) := R1.out.on hb2
    obtain ⟨r0, q0⟩ := R2.out.g0
    obtain ⟨r1, q1⟩ := R2.out.g1
    obtain ⟨r2, q2⟩ := R2.out.g2
    obtain ⟨r3, q3⟩ := R2.out.g3
    obtain ⟨r4, q4⟩ := R2.out.g4
    have R5 := (((((R2.out.s0 (.slice a1 1 1)).s1 (.slice a2 1 1)).s2 (.slice none 0 0)).s3 (.int .i64 0)).s4 (.int .i64 0))
    obtain ⟨e0, _⟩ := R5.g0
    obtain ⟨e1, _⟩ := R5.g1
    obtain ⟨e2, _⟩ := R5.g2
    obtain ⟨e3, _⟩ := R5.g3
    obtain ⟨e4, _⟩ := R5.g4
    have HT : Hid (Tch (fun k => k = w.heap.size + 1) w2 (((((w2.setCell ⟨w.heap.size + 1, 0, none⟩ (.slice a1 1 1)).setCell ⟨w.heap.size + 1, 1, none⟩ (.slice a2 1 1)).setCell ⟨w.heap.size + 1, 2, none⟩ (.slice none 0 0)).setCell ⟨w.heap.size + 1, 3, none⟩ (.int .i64 0)).setCell ⟨w.heap.size + 1, 4, none⟩ (.int .i64 0))) := (((((Tch.set (S := fun k => k = w.heap.size + 1) w2 (p := ⟨w.heap.size + 1, 0, none⟩) rfl (.slice a1 1 1)).trans (Tch.set (S := fun k => k = w.heap.size + 1) _ (p := ⟨w.heap.size + 1, 1, none⟩) rfl (.slice a2 1 1))).trans (Tch.set (S := fun k => k = w.heap.size + 1) _ (p := ⟨w.heap.size + 1, 2, none⟩) rfl (.slice none 0 0))).trans (Tch.set (S := fun k => k = w.heap.size + 1) _ (p := ⟨w.heap.size + 1, 3, none⟩) rfl (.int .i64 0))).trans (Tch.set (S := fun k => k = w.heap.size + 1) _ (p := ⟨w.heap.size + 1, 4, none⟩) rfl (.int .i64 0)))
    clear R5 hm2 hb2 p0
    go_wp2
    refine bodyPost_ret (v := .tuple #[.agg #[.slice a1 1 1, .slice a2 1 1, .slice none 0 0, .int .i64 0, .int .i64 0], .bool true]) (by simp [results, Try.results22, go_sem, e0, e1, e2, e3, e4]) rfl ?_
    rw [HF.out]
    refine ⟨_, _, _, _, none, 0, rfl, (HM2.out.tch HT.out (fun k hk hk2 => by omega)).weak (fun k hk => ⟨by omega, by simpa using hk.2⟩), hw2.trans (HT.out.below hw2.size (fun k hk => by omega))⟩
end Pg
end Go.Proofs.Ytffkkhaiedhaiaa
