/- The walk of the law FnExactStarted. -/
import Derived.Test.YtobaeenngffndaaSd5
import Derived.Test.YtobaeenngffndaaMz3
import Derived.Test.YtobaeenngffndaaPm1
import Derived.Test.YtobaeenngffndaaOPrg
import Derived.Deep.RegionWith
namespace Go.Proofs.Ytobaeenngffndaa
namespace Pg
open Go.ChangeShapes Go.WideShapes Go.ChangeAt Go.RowKit St

theorem start_small (p : Prg) : SmallK (startF p).1 ∧ 1 + cntK (startF p).1 ≤ 4000000 := by
  unfold startF
  cases hok : okP p
  · exact ⟨⟨⟨by simp [zeroM], fun x hx => by simp [zeroM] at hx⟩, ⟨by simp [zeroM], fun x hx => by simp [zeroM] at hx⟩, by simp [zeroM]⟩, by simp [zeroM, cntK, sumN]⟩
  · have hl6 := (okP_len hok).2
    have hlen : (fieldsR p 6 0).length ≤ 24 := fieldsR_len (okP_sup hok) hl6 (Nat.le_refl _) (okP_four hok) 6 _ (by omega) (by have := (okP_len hok).1; omega)
    refine ⟨⟨⟨by simp [startM], fun x hx => ?_⟩, ⟨by simp [startM], fun x hx => ?_⟩, by simp [startM]⟩, ?_⟩
    · simp [startM] at hx
      subst hx
      simp [SmallO1]
      omega
    · simp [startM] at hx
      subst hx
      exact ⟨by simp, by simp [frmV]⟩
    · simp [startM, cntK, sumN, cntO1, cntF1, frmV]
      omega

set_option maxRecDepth 100000 in
set_option maxHeartbeats 4000000 in
theorem stdLaw (a : Option Addr) (cap : Nat) (p : Prg) (hs : SaneP p) (w : World) (hin : SK wide 0 w (.slice a p.length cap) p) :
    Calls Try.prog 4 #[.agg #[.slice a p.length cap]] w fun e w' => e = .returned (.bool true) ∧ Below w.heap.size w w' := by
  have HIN : Hid (SK wide 0 w (.slice a p.length cap) p) := hin
  have HS : Hid (SaneP p) := hs
  clear hin hs
  obtain ⟨W, hW⟩ : ∃ W, W = w.alloc (.cells #[.slice a p.length cap] 38) := ⟨_, rfl⟩
  have hwW : Below w.heap.size w W := by rw [hW]; exact (Below.refl _ _).alloc (Nat.le_refl _) _
  have L0 : Hid (Cells W w.heap.size [.slice a p.length cap]) := by rw [hW]; exact Cells.new w _ rfl _ _
  by_cases hsz : (szP p : Int) ≤ 1048576
  · have HSN : Hid (szP p ≤ 1048576) := by show _ ≤ _; omega
    have HSM : Hid (SmallP p) := SmallP.of HSN.out
    have HSZ : Hid (szR (szP p) 1048576 = 1048576 - (szP p : Int)) := szR_yes hsz
    have hq : 0 ≤ 1048576 - (szP p : Int) := by omega
    obtain ⟨s, q, hsm', hms', HSF, HIF⟩ : ∃ (s : Mc) (q : Bool), SmallK s ∧ 1 + cntK s ≤ 4000000 ∧
        Hid (∀ B v d u, SK front B u (.slice v p.length d) p → Calls Try.prog 11 #[.agg #[.slice v p.length d]] u fun e w' => StdAns s q u e w') ∧
        Hid (∀ B v d u, Below w.heap.size w u → SK front B u (.slice v p.length d) p → Calls Try.prog 13 #[.agg #[.slice v p.length d]] u fun e w' => StdAns s q u e w') :=
      ⟨(startF p).1, (startF p).2, (start_small p).1, (start_small p).2, fun B v d u h => specStarted B p v d HSM.out u h, fun B v d u hb h => implStarted B p v d HSM.out u h⟩
    have HSK : Hid (SmallK s) := hsm'
    have hl1 : s.heap.length ≤ 1048576 := hsm'.1.1
    have hl2 : s.frames.length ≤ 1048576 := hsm'.2.1.1
    have hl3 : s.said.length ≤ 1048576 := hsm'.2.2
    have HMS : Hid (1 + cntK s ≤ 4000000) := hms'
    clear hsm' hms'
    go_enter Try.func4, Try.ntmps4
    go_wp2_with fail
    rw [← hW]
    clear hW
    refine (szProgram wide 0 a cap p HS.out _ (SK.on HIN.out (Keep.of hwW))).mono ?_
    rw [HSZ.out]
    rintro e w1 ⟨rfl, hb1⟩
    have hw1 : Below w.heap.size w w1 := below_over hwW hb1
    have hW1 : Below W.heap.size W w1 := hb1
    obtain ⟨c1, _⟩ := (L0.out.on hW1).g0
    clear hb1 HSZ
    go_wp2_with fail
    refine (toProgram p a cap HSM.out _ (SK.on HIN.out (Keep.of hw1))).mono ?_
    rintro e w2 ⟨v2, rfl, hv2, hb2⟩
    obtain ⟨a2, d2, rfl⟩ := hv2.form
    have hw2 : Below w.heap.size w w2 := below_over hw1 hb2
    have hW2 : Below W.heap.size W w2 := below_over hW1 hb2
    have HV2 : Hid (SK front w1.heap.size w2 (.slice a2 p.length d2) p) := hv2
    clear hb2 hv2 c1
    go_wp2_with fail
    refine (HSF.out w1.heap.size a2 d2 _ HV2.out).mono ?_
    rintro e w3 ⟨xs, ys, us, vs, ts, rs, rfl, hgs, hb3⟩
    obtain ⟨U3, hU3⟩ : ∃ U3, U3 = w3.alloc (.cells #[.slice xs s.heap.length ys, .slice us s.frames.length vs, .slice ts s.said.length rs, .int .i64 s.fin, .int .i64 s.code] 32) := ⟨_, rfl⟩
    have hbU : Below w3.heap.size w3 U3 := by rw [hU3]; exact (Below.refl _ _).alloc (Nat.le_refl _) _
    have hw3 : Below w.heap.size w U3 := below_over (below_over hw2 hb3) hbU
    have hW3 : Below W.heap.size W U3 := below_over (below_over hW2 hb3) hbU
    have hzU : U3.heap.size = w3.heap.size + 1 := by rw [hU3]; simp
    have BS : Hid (Cells U3 w3.heap.size [.slice xs s.heap.length ys, .slice us s.frames.length vs, .slice ts s.said.length rs, .int .i64 s.fin, .int .i64 s.code]) := by rw [hU3]; exact Cells.new w3 _ rfl _ _
    have GS : Hid (MZ (fun k => w2.heap.size ≤ k ∧ k < w3.heap.size) U3 (.slice xs s.heap.length ys) (.slice us s.frames.length vs) (.slice ts s.said.length rs) s) := hgs.on hbU
    obtain ⟨c3, _⟩ := (L0.out.on hW3).g0
    have HZU : Hid (U3.heap.size = w3.heap.size + 1) := hzU
    clear hb3 HV2 hgs hbU hzU
    rw [hU3] at c3
    go_wp2_with fail
    rw [← hU3]
    clear hU3
    refine (toProgram p a cap HSM.out _ (SK.on HIN.out (Keep.of hw3))).mono ?_
    rintro e w4 ⟨v4, rfl, hv4, hb4⟩
    obtain ⟨a4, d4, rfl⟩ := hv4.form
    have hw4 : Below w.heap.size w w4 := below_over hw3 hb4
    have hW4 : Below W.heap.size W w4 := below_over hW3 hb4
    have hz34 : U3.heap.size ≤ w4.heap.size := hb4.size
    have SH4 : Hid (ShK U3.heap.size w4.heap.size w4 (.slice a4 p.length d4) p) := shK_of hv4
    obtain ⟨W5, hW5⟩ : ∃ W5, W5 = w4.alloc (.cells #[.slice a4 p.length d4] 44) := ⟨_, rfl⟩
    have hb5 : Below w4.heap.size w4 W5 := by rw [hW5]; exact (Below.refl _ _).alloc (Nat.le_refl _) _
    have hz5 : w4.heap.size ≤ W5.heap.size := hb5.size
    have hb45 : Below U3.heap.size U3 W5 := below_over hb4 hb5
    have X5 : Hid (Cells W5 w4.heap.size [.slice a4 p.length d4]) := by rw [hW5]; exact Cells.new w4 _ rfl _ _
    have HV5 : Hid (SK front U3.heap.size W5 (.slice a4 p.length d4) p) := SK.on hv4 (Keep.of hb5)
    have hw5 : Below w.heap.size w W5 := below_over hw4 hb5
    have hWW5 : Below W.heap.size W W5 := below_over hW4 hb5
    have SH5 : Hid (ShK U3.heap.size w4.heap.size W5 (.slice a4 p.length d4) p) := SH4.out.mrk (Mrk.of hb5)
    have BS5 : Hid (Cells W5 w3.heap.size [.slice xs s.heap.length ys, .slice us s.frames.length vs, .slice ts s.said.length rs, .int .i64 s.fin, .int .i64 s.code]) := BS.out.on hb45
    have GS5 : Hid (MZ (fun k => w2.heap.size ≤ k ∧ k < w3.heap.size) W5 (.slice xs s.heap.length ys) (.slice us s.frames.length vs) (.slice ts s.said.length rs) s) := GS.out.on hb45
    clear hb4 hv4 c3 hb5 SH4 BS GS hb45
    go_wp2_with fail
    rw [← hW5]
    clear hW5
    refine (HIF.out U3.heap.size a4 d4 _ hw5 HV5.out).mono ?_
    rintro e w6 ⟨xi, yi, ui, vi, ti, ri, rfl, hgi, hb6⟩
    obtain ⟨U6, hU6⟩ : ∃ U6, U6 = w6.alloc (.cells #[.slice xi s.heap.length yi, .slice ui s.frames.length vi, .slice ti s.said.length ri, .int .i64 s.fin, .int .i64 s.code] 32) := ⟨_, rfl⟩
    have hbU6 : Below w6.heap.size w6 U6 := by rw [hU6]; exact (Below.refl _ _).alloc (Nat.le_refl _) _
    have hb56 : Below W5.heap.size W5 U6 := below_over hb6 hbU6
    have hw6 : Below w.heap.size w U6 := below_over hw5 hb56
    have hW6 : Below W.heap.size W U6 := below_over hWW5 hb56
    have HZU6 : Hid (U6.heap.size = w6.heap.size + 1) := by show _ = _; rw [hU6]; simp
    have BI6 : Hid (Cells U6 w6.heap.size [.slice xi s.heap.length yi, .slice ui s.frames.length vi, .slice ti s.said.length ri, .int .i64 s.fin, .int .i64 s.code]) := by rw [hU6]; exact Cells.new w6 _ rfl _ _
    have GI6 : Hid (MZ (fun k => W5.heap.size ≤ k ∧ k < w6.heap.size) U6 (.slice xi s.heap.length yi) (.slice ui s.frames.length vi) (.slice ti s.said.length ri) s) := hgi.on hbU6
    have X6 : Hid (Cells U6 w4.heap.size [.slice a4 p.length d4]) := X5.out.on hb56
    have HV6 : Hid (SK front U3.heap.size U6 (.slice a4 p.length d4) p) := SK.on HV5.out (Keep.of hb56)
    have SH6 : Hid (ShK U3.heap.size w4.heap.size U6 (.slice a4 p.length d4) p) := SH5.out.mrk (Mrk.of hb56)
    have BS6 : Hid (Cells U6 w3.heap.size [.slice xs s.heap.length ys, .slice us s.frames.length vs, .slice ts s.said.length rs, .int .i64 s.fin, .int .i64 s.code]) := BS5.out.on hb56
    have GS6 : Hid (MZ (fun k => w2.heap.size ≤ k ∧ k < w3.heap.size) U6 (.slice xs s.heap.length ys) (.slice us s.frames.length vs) (.slice ts s.said.length rs) s) := GS5.out.on hb56
    have hz56 := hb6.size
    obtain ⟨i0, _⟩ := BI6.out.g0
    obtain ⟨i1, _⟩ := BI6.out.g1
    obtain ⟨i2, _⟩ := BI6.out.g2
    obtain ⟨i3, _⟩ := BI6.out.g3
    obtain ⟨i4, _⟩ := BI6.out.g4
    obtain ⟨s0, _⟩ := BS6.out.g0
    obtain ⟨s1, _⟩ := BS6.out.g1
    obtain ⟨s2, _⟩ := BS6.out.g2
    obtain ⟨s3, _⟩ := BS6.out.g3
    obtain ⟨s4, _⟩ := BS6.out.g4
    clear hb6 HV5 X5 SH5 BS5 GS5 hgi hbU6 hb56
    rw [hU6] at i0 i1 i2 i3 i4 s0 s1 s2 s3 s4
    go_wp2_with fail
    rw [← hU6]
    rw [← hU6] at i0 i1 i2 i3 i4 s0 s1 s2 s3 s4
    clear hU6
    refine (eqMachine 0 0 s xi xs ui us ti ts yi ys vi vs ri rs HSK.out _ GI6.out.kv GS6.out.kv).mono ?_
    rintro e w7 ⟨rfl, hb7⟩
    have hw7 : Below w.heap.size w w7 := below_over hw6 hb7
    have hW7 : Below W.heap.size W w7 := below_over hW6 hb7
    have X7 : Hid (Cells w7 w4.heap.size [.slice a4 p.length d4]) := X6.out.on hb7
    have HV7 : Hid (SK front U3.heap.size w7 (.slice a4 p.length d4) p) := SK.on HV6.out (Keep.of hb7)
    have SH7 : Hid (ShK U3.heap.size w4.heap.size w7 (.slice a4 p.length d4) p) := SH6.out.mrk (Mrk.of hb7)
    have BI7 : Hid (Cells w7 w6.heap.size [.slice xi s.heap.length yi, .slice ui s.frames.length vi, .slice ti s.said.length ri, .int .i64 s.fin, .int .i64 s.code]) := BI6.out.on hb7
    have GI7 : Hid (MZ (fun k => W5.heap.size ≤ k ∧ k < w6.heap.size) w7 (.slice xi s.heap.length yi) (.slice ui s.frames.length vi) (.slice ti s.said.length ri) s) := GI6.out.on hb7
    have BS7 : Hid (Cells w7 w3.heap.size [.slice xs s.heap.length ys, .slice us s.frames.length vs, .slice ts s.said.length rs, .int .i64 s.fin, .int .i64 s.code]) := BS6.out.on hb7
    have GS7 : Hid (MZ (fun k => w2.heap.size ≤ k ∧ k < w3.heap.size) w7 (.slice xs s.heap.length ys) (.slice us s.frames.length vs) (.slice ts s.said.length rs) s) := GS6.out.on hb7
    obtain ⟨c7, _⟩ := (L0.out.on hW7).g0
    obtain ⟨x7, _⟩ := X7.out.g0
    have lx : w4.heap.size < w7.heap.size := cell_lt x7
    clear hb7 HV6 X6 SH6 BI6 GI6 BS6 GS6 hw6 hW6 i0 i1 i2 i3 i4 s0 s1 s2 s3 s4
    go_wp2_with fail
    go_region_with (first
      | (go_at_call 12; refine (toProgram p a cap HSM.out _ ?hx).mono ?_; (case hx => exact SK.on HIN.out (Keep.of hw7.drew)); rintro e w8 ⟨v8, rfl, hv8, hb8⟩; have x8 := (hb8.cell (p := ⟨w4.heap.size, 0, none⟩) lx).trans x7)
      | (go_at_call 14; have q3 := SK.on HV7.out (Keep.of (below_over (Below.refl _ _).drew hb8)); refine (eqProgram U3.heap.size _ (.slice a4 p.length d4) _ p HSM.out _ q3 hv8).mono ?_; rintro e w9 ⟨rfl, hb9⟩))
    all_goals
      have hb79 : Below w7.heap.size w7 w9 := below_over (below_over (Below.refl _ _).drew hb8) hb9
      have hw9 : Below w.heap.size w w9 := below_over hw7 hb79
      have hW9 : Below W.heap.size W w9 := below_over hW7 hb79
      obtain ⟨x9, _⟩ := (X7.out.on hb79).g0
      have SH9 : Hid (ShK U3.heap.size w4.heap.size w9 (.slice a4 p.length d4) p) := SH7.out.mrk (Mrk.of hb79)
      have BI9 : Hid (Cells w9 w6.heap.size [.slice xi s.heap.length yi, .slice ui s.frames.length vi, .slice ti s.said.length ri, .int .i64 s.fin, .int .i64 s.code]) := BI7.out.on hb79
      have GI9 : Hid (MZ (fun k => W5.heap.size ≤ k ∧ k < w6.heap.size) w9 (.slice xi s.heap.length yi) (.slice ui s.frames.length vi) (.slice ti s.said.length ri) s) := GI7.out.on hb79
      have BS9 : Hid (Cells w9 w3.heap.size [.slice xs s.heap.length ys, .slice us s.frames.length vs, .slice ts s.said.length rs, .int .i64 s.fin, .int .i64 s.code]) := BS7.out.on hb79
      have GS9 : Hid (MZ (fun k => w2.heap.size ≤ k ∧ k < w3.heap.size) w9 (.slice xs s.heap.length ys) (.slice us s.frames.length vs) (.slice ts s.said.length rs) s) := GS7.out.on hb79
      have hz9 : w6.heap.size < w9.heap.size := cell_lt BI9.out.g0.1
      clear hb8 hb9 hv8 x7 c7 q3 x8 hb79 SH7 BI7 GI7 BS7 GS7 HV7 X7 hw7 hW7 lx
      go_wp2_with fail
      refine (markProgram' U3.heap.size w4.heap.size a4 d4 p HSN.out _ SH9.out).mono ?_
      rintro e wD ⟨rfl, hmD⟩
      have hzW : W.heap.size ≤ U3.heap.size := hW3.size
      have hzw : w.heap.size ≤ U3.heap.size := hw3.size
      have HZ3 := HZU.out
      have HZ6 := HZU6.out
      have hwD : Below w.heap.size w wD := hw9.trans (hmD.below hzw hw9.size)
      have hWD : Below W.heap.size W wD := hW9.trans (hmD.below hzW hW9.size)
      have BID : Hid (Cells wD w6.heap.size [.slice xi s.heap.length yi, .slice ui s.frames.length vi, .slice ti s.said.length ri, .int .i64 s.fin, .int .i64 s.code]) := BI9.out.mrk hmD (.inr (by omega))
      have GID : Hid (MZ (fun k => W5.heap.size ≤ k ∧ k < w6.heap.size) wD (.slice xi s.heap.length yi) (.slice ui s.frames.length vi) (.slice ti s.said.length ri) s) := GI9.out.mrk hmD (fun k hk => .inr (by omega))
      have BSD : Hid (Cells wD w3.heap.size [.slice xs s.heap.length ys, .slice us s.frames.length vs, .slice ts s.said.length rs, .int .i64 s.fin, .int .i64 s.code]) := BS9.out.mrk hmD (.inl (by omega))
      have GSD : Hid (MZ (fun k => w2.heap.size ≤ k ∧ k < w3.heap.size) wD (.slice xs s.heap.length ys) (.slice us s.frames.length vs) (.slice ts s.said.length rs) s) := GS9.out.mrk hmD (fun k hk => .inl (by omega))
      have hzD : w6.heap.size < wD.heap.size := Nat.lt_of_lt_of_le hz9 hmD.size
      obtain ⟨i0, _⟩ := BID.out.g0
      obtain ⟨i1, _⟩ := BID.out.g1
      obtain ⟨i2, _⟩ := BID.out.g2
      obtain ⟨i3, _⟩ := BID.out.g3
      obtain ⟨i4, _⟩ := BID.out.g4
      obtain ⟨s0, _⟩ := BSD.out.g0
      obtain ⟨s1, _⟩ := BSD.out.g1
      obtain ⟨s2, _⟩ := BSD.out.g2
      obtain ⟨s3, _⟩ := BSD.out.g3
      obtain ⟨s4, _⟩ := BSD.out.g4
      clear hmD BI9 GI9 BS9 GS9 SH9 x9 hw9 hW9 HZ3 HZ6
      generalize 1 + cntP p = cnt at *
      have hneg : ¬ ((cnt : Int) < 0) := by omega
      go_wp2_with fail
      refine (eqMachine 0 0 s xi xs ui us ti ts yi ys vi vs ri rs HSK.out _ GID.out.kv GSD.out.kv).mono ?_
      rintro e wE ⟨rfl, hbE⟩
      have hwE : Below w.heap.size w wE := below_over hwD hbE
      have hWE : Below W.heap.size W wE := below_over hWD hbE
      have BIE : Hid (Cells wE w6.heap.size [.slice xi s.heap.length yi, .slice ui s.frames.length vi, .slice ti s.said.length ri, .int .i64 s.fin, .int .i64 s.code]) := BID.out.on hbE
      have GIE : Hid (MZ (fun k => W5.heap.size ≤ k ∧ k < w6.heap.size) wE (.slice xi s.heap.length yi) (.slice ui s.frames.length vi) (.slice ti s.said.length ri) s) := GID.out.on hbE
      have BSE : Hid (Cells wE w3.heap.size [.slice xs s.heap.length ys, .slice us s.frames.length vs, .slice ts s.said.length rs, .int .i64 s.fin, .int .i64 s.code]) := BSD.out.on hbE
      have GSE : Hid (MZ (fun k => w2.heap.size ≤ k ∧ k < w3.heap.size) wE (.slice xs s.heap.length ys) (.slice us s.frames.length vs) (.slice ts s.said.length rs) s) := GSD.out.on hbE
      have hzE : w6.heap.size < wE.heap.size := Nat.lt_of_lt_of_le hzD hbE.size
      obtain ⟨j0, _⟩ := BIE.out.g0
      obtain ⟨j1, _⟩ := BIE.out.g1
      obtain ⟨j2, _⟩ := BIE.out.g2
      obtain ⟨j3, _⟩ := BIE.out.g3
      obtain ⟨j4, _⟩ := BIE.out.g4
      clear hbE BID GID BSD GSD hwD hWD i0 i1 i2 i3 i4 s0 s1 s2 s3 s4
      go_wp2_with fail
      refine (markMachine' (fun k => W5.heap.size ≤ k ∧ k < w6.heap.size) s xi ui ti yi vi ri 1 1 rfl s.fin s.code hl1 hl2 hl3 HMS.out wE (fun k hk => by omega) GIE.out).mono ?_
      rintro e wF ⟨rfl, gF, tF⟩
      have bF : Below W5.heap.size wE wF := tF.below (by omega) (fun k hk => hk.1)
      have kF : Keep w6.heap.size wE wF := ⟨tF.size, fun k hk hl => tF.far k hl (fun h => by omega)⟩
      have HZ3 := HZU.out
      have hwF : Below w.heap.size w wF := hwE.trans (below_less bF (by have := hw5.size; omega))
      have hWF : Below W.heap.size W wF := hWE.trans (below_less bF (by have := hWW5.size; omega))
      have BIF : Hid (Cells wF w6.heap.size [.slice xi s.heap.length yi, .slice ui s.frames.length vi, .slice ti s.said.length ri, .int .i64 s.fin, .int .i64 s.code]) := BIE.out.keep kF (Nat.le_refl _)
      have GIF : Hid (MZ (fun k => W5.heap.size ≤ k ∧ k < w6.heap.size) wF (.slice xi s.heap.length yi) (.slice ui s.frames.length vi) (.slice ti s.said.length ri) (marksK 1 s)) := gF
      have BSF : Hid (Cells wF w3.heap.size [.slice xs s.heap.length ys, .slice us s.frames.length vs, .slice ts s.said.length rs, .int .i64 s.fin, .int .i64 s.code]) := BSE.out.low bF (by omega)
      have GSF : Hid (MZ (fun k => w2.heap.size ≤ k ∧ k < w3.heap.size) wF (.slice xs s.heap.length ys) (.slice us s.frames.length vs) (.slice ts s.said.length rs) s) := GSE.out.moved bF.size (fun k hk _ => bF.block k (by omega))
      obtain ⟨k0, _⟩ := BIF.out.g0
      obtain ⟨k1, _⟩ := BIF.out.g1
      obtain ⟨k2, _⟩ := BIF.out.g2
      obtain ⟨k3, _⟩ := BIF.out.g3
      obtain ⟨k4, _⟩ := BIF.out.g4
      clear gF bF kF tF BIE GIE BSE GSE hwE hWE j0 j1 j2 j3 j4 HZ3
      generalize hqq : 1 + cntK s = mq at *
      have HQQ : Hid (1 + cntK s = mq) := hqq
      clear hqq
      have hq0 : ¬ ((mq : Int) < 0) := by omega
      go_wp2_with fail
      refine (heldMachine' (fun k => W5.heap.size ≤ k ∧ k < w6.heap.size) s xi ui ti yi vi ri 1 1 rfl s.fin s.code hl1 hl2 hl3 (by rw [HQQ.out]; exact HMS.out) wF GIF.out).mono ?_
      rw [HQQ.out]
      rintro e wG ⟨rfl, hbG⟩
      have hwG : Below w.heap.size w wG := below_over hwF hbG
      have hWG : Below W.heap.size W wG := below_over hWF hbG
      have BIG : Hid (Cells wG w6.heap.size [.slice xi s.heap.length yi, .slice ui s.frames.length vi, .slice ti s.said.length ri, .int .i64 s.fin, .int .i64 s.code]) := BIF.out.on hbG
      have GIG : Hid (MZ (fun k => W5.heap.size ≤ k ∧ k < w6.heap.size) wG (.slice xi s.heap.length yi) (.slice ui s.frames.length vi) (.slice ti s.said.length ri) (marksK 1 s)) := GIF.out.on hbG
      have BSG : Hid (Cells wG w3.heap.size [.slice xs s.heap.length ys, .slice us s.frames.length vs, .slice ts s.said.length rs, .int .i64 s.fin, .int .i64 s.code]) := BSF.out.on hbG
      have GSG : Hid (MZ (fun k => w2.heap.size ≤ k ∧ k < w3.heap.size) wG (.slice xs s.heap.length ys) (.slice us s.frames.length vs) (.slice ts s.said.length rs) s) := GSF.out.on hbG
      obtain ⟨cG, _⟩ := (L0.out.on hWG).g0
      clear hbG BIF GIF BSF GSF hwF hWF k0 k1 k2 k3 k4
      go_wp2_with fail
      refine (toProgram p a cap HSM.out _ (SK.on HIN.out (Keep.of hwG))).mono ?_
      rintro e wH ⟨vH, rfl, hvH, hbH⟩
      obtain ⟨aH, dH, rfl⟩ := hvH.form
      have hwH : Below w.heap.size w wH := below_over hwG hbH
      have HVH : Hid (SK front wG.heap.size wH (.slice aH p.length dH) p) := hvH
      have HBH : Hid (Below wG.heap.size wG wH) := hbH
      clear hvH hbH cG
      go_wp2_with fail
      refine (HIF.out wG.heap.size aH dH _ hwH HVH.out).mono ?_
      rintro e wI ⟨xh, yh, uh, vh, th, rh, rfl, hgh, hbI⟩
      obtain ⟨UI, hUI⟩ : ∃ UI, UI = wI.alloc (.cells #[.slice xh s.heap.length yh, .slice uh s.frames.length vh, .slice th s.said.length rh, .int .i64 s.fin, .int .i64 s.code] 32) := ⟨_, rfl⟩
      have hbUI : Below wI.heap.size wI UI := by rw [hUI]; exact (Below.refl _ _).alloc (Nat.le_refl _) _
      have hbGI : Below wG.heap.size wG UI := below_over HBH.out (below_over hbI hbUI)
      have hwI : Below w.heap.size w UI := below_over hwG hbGI
      have BHI : Hid (Cells UI wI.heap.size [.slice xh s.heap.length yh, .slice uh s.frames.length vh, .slice th s.said.length rh, .int .i64 s.fin, .int .i64 s.code]) := by rw [hUI]; exact Cells.new wI _ rfl _ _
      have GHI : Hid (MZ (fun k => wH.heap.size ≤ k ∧ k < wI.heap.size) UI (.slice xh s.heap.length yh) (.slice uh s.frames.length vh) (.slice th s.said.length rh) s) := hgh.on hbUI
      have BII : Hid (Cells UI w6.heap.size [.slice xi s.heap.length yi, .slice ui s.frames.length vi, .slice ti s.said.length ri, .int .i64 s.fin, .int .i64 s.code]) := BIG.out.on hbGI
      have GII : Hid (MZ (fun k => W5.heap.size ≤ k ∧ k < w6.heap.size) UI (.slice xi s.heap.length yi) (.slice ui s.frames.length vi) (.slice ti s.said.length ri) (marksK 1 s)) := GIG.out.on hbGI
      have BSI : Hid (Cells UI w3.heap.size [.slice xs s.heap.length ys, .slice us s.frames.length vs, .slice ts s.said.length rs, .int .i64 s.fin, .int .i64 s.code]) := BSG.out.on hbGI
      have GSI : Hid (MZ (fun k => w2.heap.size ≤ k ∧ k < w3.heap.size) UI (.slice xs s.heap.length ys) (.slice us s.frames.length vs) (.slice ts s.said.length rs) s) := GSG.out.on hbGI
      obtain ⟨i0, _⟩ := BHI.out.g0
      obtain ⟨i1, _⟩ := BHI.out.g1
      obtain ⟨i2, _⟩ := BHI.out.g2
      obtain ⟨i3, _⟩ := BHI.out.g3
      obtain ⟨i4, _⟩ := BHI.out.g4
      obtain ⟨s0, _⟩ := BSI.out.g0
      obtain ⟨s1, _⟩ := BSI.out.g1
      obtain ⟨s2, _⟩ := BSI.out.g2
      obtain ⟨s3, _⟩ := BSI.out.g3
      obtain ⟨s4, _⟩ := BSI.out.g4
      clear hgh hbI hbUI hbGI HBH HVH BIG GIG BSG GSG hwG hWG hwH
      rw [hUI] at i0 i1 i2 i3 i4 s0 s1 s2 s3 s4
      go_wp2_with fail
      rw [← hUI]
      clear i0 i1 i2 i3 i4 s0 s1 s2 s3 s4 hUI
      refine (eqMachine 0 0 s xh xs uh us th ts yh ys vh vs rh rs HSK.out _ GHI.out.kv GSI.out.kv).mono ?_
      rintro e wJ ⟨rfl, hbJ⟩
      have hwJ : Below w.heap.size w wJ := below_over hwI hbJ
      have BIJ : Hid (Cells wJ w6.heap.size [.slice xi s.heap.length yi, .slice ui s.frames.length vi, .slice ti s.said.length ri, .int .i64 s.fin, .int .i64 s.code]) := BII.out.on hbJ
      have GIJ : Hid (MZ (fun k => W5.heap.size ≤ k ∧ k < w6.heap.size) wJ (.slice xi s.heap.length yi) (.slice ui s.frames.length vi) (.slice ti s.said.length ri) (marksK 1 s)) := GII.out.on hbJ
      obtain ⟨j0, _⟩ := BIJ.out.g0
      obtain ⟨j1, _⟩ := BIJ.out.g1
      obtain ⟨j2, _⟩ := BIJ.out.g2
      obtain ⟨j3, _⟩ := BIJ.out.g3
      obtain ⟨j4, _⟩ := BIJ.out.g4
      clear hbJ BHI GHI BII GII BSI GSI hwI
      go_wp2_with fail
      refine (heldMachine' (fun k => W5.heap.size ≤ k ∧ k < w6.heap.size) s xi ui ti yi vi ri 1 1 rfl s.fin s.code hl1 hl2 hl3 (by rw [HQQ.out]; exact HMS.out) wJ GIJ.out).mono ?_
      rw [HQQ.out]
      rintro e wK ⟨rfl, hbK⟩
      have hwK : Below w.heap.size w wK := below_over hwJ hbK
      clear hbK j0 j1 j2 j3 j4
      go_wp2
      go_ret
      exact ⟨rfl, hwK⟩
  · have HSZ : Hid (szR (szP p) 1048576 = -1) := szR_no (Int.not_le.1 hsz)
    go_enter Try.func4, Try.ntmps4
    go_wp2_with fail
    rw [← hW]
    clear hW
    refine (szProgram wide 0 a cap p HS.out _ (SK.on HIN.out (Keep.of hwW))).mono ?_
    rw [HSZ.out]
    rintro e w1 ⟨rfl, hb1⟩
    have hw1 : Below w.heap.size w w1 := below_over hwW hb1
    clear hb1
    go_wp2
    go_ret
    exact ⟨rfl, hw1⟩
end Pg
end Go.Proofs.Ytobaeenngffndaa
