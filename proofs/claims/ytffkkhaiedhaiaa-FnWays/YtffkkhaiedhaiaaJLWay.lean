/- The walk of the law FnWays: over bytes of at most 4096 cells it returns true, and nothing old has turned. -/
import Derived.Test.YtffkkhaiedhaiaaJPg5
import Derived.Test.YtffkkhaiedhaiaaJSd5
import Derived.Test.YtffkkhaiedhaiaaJPg2
import Derived.Deep.Cut
import Derived.Deep.RegionHeld3
import Derived.BigQuiet
namespace Go.Proofs.Ytffkkhaiedhaiaa
namespace Pg
open Go.ChangeShapes Go.WideShapes Go.ChangeAt Go.RowKit St Wd

set_option maxRecDepth 100000 in
theorem ways_big (w : World) (a0 : Option Addr) (len cap : Nat) (hl : ¬ len ≤ 4096) :
    Calls Try.prog 3 #[.slice a0 len cap] w fun e w' => e = .returned (.bool true) ∧ Below w.heap.size w w' := by
  have hnb : decide ((4096 : Int) < (len : Int)) = true := by simp; omega
  go_enter Try.func3, Try.ntmps3
  go_wp2_with (go_at_call 6; refine (Cu.big_at _ _ _ _).mono ?_; rintro e w1 ⟨rfl, rfl⟩)
  go_ret
  exact ⟨rfl, Below.refl _ _⟩

set_option maxRecDepth 100000 in
set_option maxHeartbeats 8000000 in
theorem ways_small (w : World) (a0 : Option Addr) (len cap : Nat) (hB : Cu.Bytes w.heap.size w a0 len) :
    Calls Try.prog 3 #[.slice a0 len cap] w fun e w' => e = .returned (.bool true) ∧ Below w.heap.size w w' := by
  have hl := hB.1
  have hnb : decide ((4096 : Int) < (len : Int)) = false := by simp; omega
  have HB : Hid (Cu.Bytes w.heap.size w a0 len) := hB
  clear hB
  go_enter Try.func3, Try.ntmps3
  go_wp2_with fail
  refine (Cu.big_at _ _ _ _).mono ?_
  rintro e w1 ⟨rfl, rfl⟩
  go_wp2_with fail
  refine (drawNexts_at w.heap.size _ _ _ _ HB.out (Nat.le_refl _)).mono ?_
  rintro e w1 ⟨gl, cl, l, r, rfl, hr1, hll, hb1⟩
  have HL1 : Hid (Row w1 gl 0 l) := hr1
  have hw1 := hb1
  clear hr1 hb1 hnb hl
  go_wp2_with fail
  refine (implNexts gl cl l r (by omega) _ HL1.out).mono ?_
  rintro e w2 ⟨x, rfl, ⟨gn, cn, rfl, _, _, hn, _⟩, hb2⟩
  have HN2 : Hid (IRow w2 gn 0 (nexA l r)) := hn
  have HL2 : Hid (Row w2 gl 0 l) := HL1.out.on hb2
  have hw2 : Below w.heap.size w w2 := below_over hw1 hb2
  clear hn hb2 HL1 hw1
  go_wp2_with fail
  refine (drawReached_at w.heap.size _ _ _ _ (HB.out.below hw2) hw2.size).mono ?_
  rintro e w3 ⟨ga, ca, a, rfl, hra, hma, hga, hla, hb3⟩
  have HA3 : Hid (Row w3 ga 0 a) := hra
  have HM3 : Hid (Room w3 ga (a.length * 3)) := hma
  have HN3 : Hid (IRow w3 gn 0 (nexA l r)) := HN2.out.on hb3
  have HL3 : Hid (Row w3 gl 0 l) := HL2.out.on hb3
  have hw3 : Below w.heap.size w w3 := below_over hw2 hb3
  clear hra hma hb3 HN2 HL2 hw2
  go_wp2_with fail
  refine (implReached ga ca a (by omega) _ HA3.out).mono ?_
  rintro e w4 ⟨x, rfl, ⟨gr, cr, rfl, _, _, hr4, _⟩, hb4⟩
  have HR4 : Hid (IRow w4 gr 0 (rchA a)) := hr4
  have HA4 : Hid (Row w4 ga 0 a) := HA3.out.on hb4
  have HM4 : Hid (Room w4 ga (a.length * 3)) := HM3.out.on hb4
  have HN4 : Hid (IRow w4 gn 0 (nexA l r)) := HN3.out.on hb4
  have HL4 : Hid (Row w4 gl 0 l) := HL3.out.on hb4
  have hw4 : Below w.heap.size w w4 := below_over hw3 hb4
  have hga4 : ga < w4.heap.size := Nat.lt_of_lt_of_le hga hb4.size
  clear hr4 hb4 HA3 HM3 HN3 HL3 hw3 hga
  go_wp2_with fail
  refine (implLeaders ga ca a (by omega) _ HA4.out).mono ?_
  rintro e w5 ⟨x, rfl, ⟨gd, cd, rfl, _, _, hd5, _⟩, hb5⟩
  have HD5 : Hid (IRow w5 gd 0 (ldrA a)) := hd5
  have HR5 : Hid (IRow w5 gr 0 (rchA a)) := HR4.out.on hb5
  have HA5 : Hid (Row w5 ga 0 a) := HA4.out.on hb5
  have HM5 : Hid (Room w5 ga (a.length * 3)) := HM4.out.on hb5
  have HN5 : Hid (IRow w5 gn 0 (nexA l r)) := HN4.out.on hb5
  have HL5 : Hid (Row w5 gl 0 l) := HL4.out.on hb5
  have hw5 : Below w.heap.size w w5 := below_over hw4 hb5
  have hga5 : ga < w5.heap.size := Nat.lt_of_lt_of_le hga4 hb5.size
  clear hd5 hb5 HR4 HA4 HM4 HN4 HL4 hw4 hga4
  go_wp2_with fail
  refine (drawStraight_at w.heap.size _ _ _ _ (HB.out.below hw5) hw5.size).mono ?_
  rintro e w6 ⟨gb, cb, b, lo, hi, rfl, ⟨hlo0, hlo1, hhi⟩, hrb, hlb, hb6⟩
  have HB6 : Hid (Row w6 gb 0 b) := hrb
  have HD6 : Hid (IRow w6 gd 0 (ldrA a)) := HD5.out.on hb6
  have HR6 : Hid (IRow w6 gr 0 (rchA a)) := HR5.out.on hb6
  have HA6 : Hid (Row w6 ga 0 a) := HA5.out.on hb6
  have HM6 : Hid (Room w6 ga (a.length * 3)) := HM5.out.on hb6
  have HN6 : Hid (IRow w6 gn 0 (nexA l r)) := HN5.out.on hb6
  have HL6 : Hid (Row w6 gl 0 l) := HL5.out.on hb6
  have hw6 : Below w.heap.size w w6 := below_over hw5 hb6
  have hga6 : ga < w6.heap.size := Nat.lt_of_lt_of_le hga5 hb6.size
  clear hrb hb6 HD5 HR5 HA5 HM5 HN5 HL5 hw5 hga5
  go_wp2_with fail
  refine (implStraight gb cb b lo hi (by omega) _ HB6.out).mono ?_
  rintro e w7 ⟨rfl, hb7⟩
  have hlnN := nexA_len l r
  have hlnR := rchA_len a
  have hlnD := ldrA_len a
  have HST7 : Hid (∀ x, Below w7.heap.size w7 x → Row x gb 0 b ∧ IRow x gd 0 (ldrA a) ∧ IRow x gr 0 (rchA a) ∧ Row x ga 0 a ∧ Room x ga (a.length * 3) ∧ IRow x gn 0 (nexA l r) ∧ Row x gl 0 l ∧ Below w.heap.size w x) := fun x hx => by
    have h := below_over hb7 hx
    exact ⟨HB6.out.on h, HD6.out.on h, HR6.out.on h, HA6.out.on h, HM6.out.on h, HN6.out.on h, HL6.out.on h, below_over hw6 h⟩
  have hga7 : ga < w7.heap.size := Nat.lt_of_lt_of_le hga6 hb7.size
  clear hb7 HB6 HD6 HR6 HA6 HM6 HN6 HL6 hw6 hga6
  have HSV : Hid (∀ i : Int, lo ≤ i → i < hi → strA b lo hi = true → nexA b i = [i + 1]) := fun i h1 h2 h => straight_next h h1 h2
  obtain ⟨sv, hsv⟩ : ∃ sv, sv = strA b lo hi := ⟨_, rfl⟩
  have HSE : Hid (sv = strA b lo hi) := hsv
  rw [← hsv]
  rw [← hsv] at HSV
  clear hsv
  -- what both sides say
  go_wp2_with fail
  refine (specNexts gl cl l r (by omega) _ (HST7.out _ (Below.refl _ _)).2.2.2.2.2.2.1).mono ?_
  rintro e w8 ⟨x, rfl, ⟨g8, c8, rfl, _, _, hn8⟩, hb8⟩
  have hx8 : Below w7.heap.size w7 w8 := hb8
  go_wp2_with fail
  refine (likeSame gn g8 cn c8 (nexA l r) (by omega) _ (HST7.out _ hx8).2.2.2.2.2.1 hn8).mono ?_
  rintro e w9 ⟨rfl, hb9⟩
  have hx9 : Below w7.heap.size w7 w9 := below_over hx8 hb9
  clear hn8 hb8 hb9 hx8
  go_wp2_with fail
  refine (specReached ga ca a (by omega) _ (HST7.out _ hx9).2.2.2.1).mono ?_
  rintro e w10 ⟨x, rfl, ⟨g10, c10, rfl, _, _, hn10⟩, hb10⟩
  have hx10 : Below w7.heap.size w7 w10 := below_over hx9 hb10
  clear hb10 hx9
  go_wp2_with fail
  refine (likeSame gr g10 cr c10 (rchA a) (by omega) _ (HST7.out _ hx10).2.2.1 hn10).mono ?_
  rintro e w11 ⟨rfl, hb11⟩
  have hx11 : Below w7.heap.size w7 w11 := below_over hx10 hb11
  clear hn10 hb11 hx10
  go_wp2_with fail
  refine (specLeaders ga ca a (by omega) _ (HST7.out _ hx11).2.2.2.1).mono ?_
  rintro e w12 ⟨x, rfl, ⟨g12, c12, rfl, _, _, hn12⟩, hb12⟩
  have hx12 : Below w7.heap.size w7 w12 := below_over hx11 hb12
  clear hb12 hx11
  go_wp2_with fail
  refine (likeSame gd g12 cd c12 (ldrA a) (by omega) _ (HST7.out _ hx12).2.1 hn12).mono ?_
  rintro e w13 ⟨rfl, hb13⟩
  have hx13 : Below w7.heap.size w7 w13 := below_over hx12 hb13
  clear hn12 hb13 hx12
  go_wp2_with fail
  refine (specStraight gb cb b lo hi (by omega) _ (HST7.out _ hx13).1).mono ?_
  rw [← HSE.out]
  rintro e w14 ⟨rfl, hb14⟩
  have hx14 : Below w7.heap.size w7 w14 := below_over hx13 hb14
  clear hb14 hx13
  have hnn : (sv != sv) = false := by cases sv <;> rfl
  go_wp2_with fail
  refine (risesYes gn cn (nexA l r) (by omega) (rise_up (nex_rise l r)) _ (HST7.out _ hx14).2.2.2.2.2.1).mono ?_
  rintro e w15 ⟨rfl, hb15⟩
  have hx15 : Below w7.heap.size w7 w15 := below_over hx14 hb15
  clear hb15 hx14
  go_wp2_with fail
  refine (risesYes gr cr (rchA a) (by omega) (rise_up (rch_rise a)) _ (HST7.out _ hx15).2.2.1).mono ?_
  rintro e w16 ⟨rfl, hb16⟩
  have hx16 : Below w7.heap.size w7 w16 := below_over hx15 hb16
  clear hb16 hx15
  go_wp2_with fail
  refine (risesYes gd cd (ldrA a) (by omega) (rise_up (ldr_rise a)) _ (HST7.out _ hx16).2.1).mono ?_
  rintro e w17 ⟨rfl, hb17⟩
  have hx17 : Below w7.heap.size w7 w17 := below_over hx16 hb17
  clear hb17 hx16 hnn HSE
  go_upto_if 89 with fail
  go_cut [2, 12] from 20 to 103 (fun _ s u => s = .bool sv ∧ Below w7.heap.size w7 u)
  case first =>
    cases hsb : sv
    · go_wp2_with fail
      go_meet
      exact ⟨by rw [hsb], hx17⟩
    · have HN : Hid (∀ i : Int, lo ≤ i → i < hi → nexA b i = [i + 1]) := fun i h1 h2 => HSV.out i h1 h2 hsb
      have HSB : Hid (sv = true) := hsb
      clear hsb HSV
      go_wp2
      go_loopw [13] (fun i wr => ∃ x : Int, i = .int .i64 x ∧ lo ≤ x ∧ x ≤ 600 ∧ Below w7.heap.size w7 wr) (fun i _ => (hi - intOf i).toNat)
      case atStart => exact ⟨lo, rfl, Int.le_refl _, by omega, hx17⟩
      case round =>
        clear hx17
        obtain ⟨x, rfl, hx0, hx6, hb⟩ := hrel
        by_cases hlt : x < hi
        · have hne := HN.out x hx0 hlt
          have HC : Hid (∃ gq cq w1, True) := ⟨0, 0, wr, trivial⟩
          clear HC
          go_wp2_with fail
          refine (implNexts gb cb b x (by omega) _ (HST7.out _ hb).1).mono ?_
          rw [hne]
          rintro e v1 ⟨y, rfl, ⟨g1, c1, rfl, _, _, hn1, _⟩, hv1⟩
          have hbv : Below w7.heap.size w7 v1 := below_over hb hv1
          have hbw : Below w7.heap.size w7 (v1.alloc (.cells #[.int .i64 (x + 1)] 2)) := hbv.alloc hbv.size _
          have HR1 : Hid (IRow (v1.alloc (.cells #[.int .i64 (x + 1)] 2)) g1 0 [x + 1]) := IRow.on hn1 ((Below.refl _ _).alloc (Nat.le_refl _) _)
          have HR2 : Hid (IRow (v1.alloc (.cells #[.int .i64 (x + 1)] 2)) v1.heap.size 0 [x + 1]) := fun j z hz => by
            match j, hz with
            | 0, hz => simp at hz; subst hz; exact (Cells.new v1 _ rfl [.int .i64 (x + 1)] 2).g0.1
            | j + 1, hz => simp at hz
          clear hn1 hv1 hne hbv hb
          go_wp2_with fail
          refine (likeSame g1 v1.heap.size c1 1 [x + 1] (by simp) _ HR1.out HR2.out).mono ?_
          rintro e v2 ⟨rfl, hv2⟩
          have hb2 : Below w7.heap.size w7 v2 := below_over hbw hv2
          clear hv2 HR1 HR2 hbw
          go_wp2
          go_roundw
          case rel => exact ⟨x + 1, rfl, by omega, by omega, hb2⟩
          case measure => simp [intOf]; omega
        · go_wp2_with fail
          go_meet
          exact ⟨by rw [HSB.out], hb⟩
  case rest =>
    obtain ⟨rfl, hx18⟩ := hcut
    clear hx17 HSV
    go_wp2_with fail
    refine (specCodeOk ga ca a (by omega) _ (HST7.out _ hx18).2.2.2.1).mono ?_
    rintro e w19 ⟨rfl, hb19⟩
    have hx19 : Below w7.heap.size w7 w19 := below_over hx18 hb19
    have hwx : Below w.heap.size w w19 := (HST7.out _ hx19).2.2.2.2.2.2.2
    clear hb19 hx18
    cases hok : Lay.codeOk a
    · have h1 : (rchA a).length = 0 := by unfold rchA; rw [hok]; rfl
      have h2 : (ldrA a).length = 0 := by unfold ldrA; rw [hok]; rfl
      rw [h1, h2]
      clear h1 h2 hok
      go_wp2
      go_ret
      exact ⟨rfl, hwx⟩
    · have HOK : Hid (Lay.codeOk a = true) := hok
      clear hok
      have hl40 := (Lay.ok_len HOK.out).2
      have hl01 := (Lay.ok_len HOK.out).1
      have hga19 : ga < w19.heap.size := Nat.lt_of_lt_of_le hga7 hx19.size
      go_wp2_with fail
      refine (withMain_at ga ca a w19 (HST7.out _ hx19).2.2.2.1 (HST7.out _ hx19).2.2.2.2.1 hga19).mono ?_
      rintro e w20 ⟨bp, rfl, hsk, hb20⟩
      have hx20 : Below w7.heap.size w7 w20 := below_over hx19 hb20
      obtain ⟨W, hW⟩ : ∃ W, W = w20.alloc (.cells #[.slice (some ⟨bp, 0, none⟩) 1 1] 39) := ⟨_, rfl⟩
      have h20W : Below w20.heap.size w20 W := by rw [hW]; exact (Below.refl _ _).alloc (Nat.le_refl _) _
      have P0 : Hid (Cells W w20.heap.size [.slice (some ⟨bp, 0, none⟩) 1 1]) := by rw [hW]; exact Cells.new w20 _ rfl _ _
      have HSKW : Hid (SK front 0 W (.slice (some ⟨bp, 0, none⟩) (mainP a).length 1) (mainP a)) := SK.on hsk (Keep.of h20W)
      have hxW : Below w7.heap.size w7 W := below_over hx20 h20W
      have hok' : okP (mainP a) = true := mainP_ok HOK.out
      have HPO : Hid (okP (mainP a) = true) := hok'
      have HSMP : Hid (SmallP (mainP a)) := mainP_small (by omega)
      have hPl : (mainP a).length = 1 := rfl
      have HSF : Hid (startF (mainP a) = (startM (mainP a), true)) := by show _ = _; unfold startF; rw [hok']; rfl
      have p0 := P0.out.g0.1
      clear hsk hb20 hx19 hx20 hok' h20W hga7 hga19
      go_upto_region 21 with fail
      rw [← hW]
      clear hW
      go_wp2_with fail
      have HSTA := specStarted 0 (mainP a) (some ⟨bp, 0, none⟩) 1 HSMP.out W HSKW.out
      rw [hPl, HSF.out] at HSTA
      refine HSTA.mono ?_
      clear HSTA p0
      rintro e w21 ⟨a1, c1, a2, c2, a3, c3, rfl, hmz, hb21⟩
      have hx21 : Below W.heap.size W w21 := hb21
      have HKV : Hid (KV true 0 w21 (.slice a1 (startM (mainP a)).heap.length c1) (.slice a2 (startM (mainP a)).frames.length c2) (.slice a3 (startM (mainP a)).said.length c3) (startM (mainP a))) := hmz.kv
      have HMB : Hid (machB (startM (mainP a)) = true) := main_mach a
      have HWI : Hid (WayI a (startM (mainP a))) := WayI.start a
      have HPI : Hid (PosI a (startM (mainP a))) := PosI.start hl01
      clear hmz hb21
      dsimp only
      generalize startM (mainP a) = m0 at *
      obtain ⟨X, hX⟩ : ∃ X, X = w21.alloc (.cells #[.slice a1 m0.heap.length c1, .slice a2 m0.frames.length c2, .slice a3 m0.said.length c3, .int .i64 m0.fin, .int .i64 m0.code] 44) := ⟨_, rfl⟩
      have h21X : Below w21.heap.size w21 X := by rw [hX]; exact (Below.refl _ _).alloc (Nat.le_refl _) _
      have M0 : Hid (Cells X w21.heap.size [.slice a1 m0.heap.length c1, .slice a2 m0.frames.length c2, .slice a3 m0.said.length c3, .int .i64 m0.fin, .int .i64 m0.code]) := by rw [hX]; exact Cells.new w21 _ rfl _ _
      have HKX : Hid (KV true 0 X (.slice a1 m0.heap.length c1) (.slice a2 m0.frames.length c2) (.slice a3 m0.said.length c3) m0) := HKV.out.on (Keep.of h21X)
      have hNX : Below w21.heap.size w21 X := h21X
      have HALL : Hid (∀ x, Below w21.heap.size w21 x → Row x ga 0 a ∧ IRow x gr 0 (rchA a) ∧ SK front 0 x (.slice (some ⟨bp, 0, none⟩) (mainP a).length 1) (mainP a) ∧ Cells x w20.heap.size [.slice (some ⟨bp, 0, none⟩) 1 1] ∧ Below w.heap.size w x) := fun x hx => by
        have h := below_over hx21 hx
        have h7 := below_over hxW h
        obtain ⟨_, _, q3, q4, _, _, _, q8⟩ := HST7.out x h7
        exact ⟨q4, q3, SK.on HSKW.out (Keep.of h), P0.out.on h, q8⟩
      clear HKV h21X HSKW P0 HST7 hx21 hxW
      go_upto_region 22 with fail
      rw [← hX]
      clear hX
      go_wp2
      go_loopw [17] (fun i wr => ∃ (k : Nat) (m : Mc) (a1 a2 a3 : Option Addr) (c1 c2 c3 : Nat), k ≤ 60 ∧ i = .int .i64 (k : Int) ∧ Hid (Cells wr w21.heap.size [.slice a1 m.heap.length c1, .slice a2 m.frames.length c2, .slice a3 m.said.length c3, .int .i64 m.fin, .int .i64 m.code]) ∧ Hid (KV true 0 wr (.slice a1 m.heap.length c1) (.slice a2 m.frames.length c2) (.slice a3 m.said.length c3) m) ∧ Hid (machB m = true) ∧ Hid (m.fin = 0 → WayI a m ∧ PosI a m) ∧ Below w21.heap.size w21 wr) (fun i _ => 60 - (intOf i).toNat)
      case atStart => exact ⟨0, m0, a1, a2, a3, c1, c2, c3, by omega, rfl, M0.out, HKX.out, HMB.out, fun _ => ⟨HWI.out, HPI.out⟩, hNX⟩
      case round =>
        clear M0 HKX HMB HWI HPI hNX
        obtain ⟨k, m, b1, b2, b3, d1, d2, d3, hk, rfl, hM, hK, hMB, hWP, hb⟩ := hrel
        obtain ⟨y1, f1⟩ := hM.out.g1
        obtain ⟨y3, f3⟩ := hM.out.g3
        have hwr : Below w.heap.size w wr := (HALL.out _ hb).2.2.2.2
        by_cases hk6 : k < 60
        · by_cases hf : m.fin = 0
          · obtain ⟨hWI, hPI⟩ := hWP.out hf
            have hmc := (mach_core m).1 hMB.out
            have h30 := hmc.1.f30
            have hfr := hmc.2.2.2 hf
            have hl0 : 0 < m.frames.length := List.length_pos_iff.2 hfr
            obtain ⟨q, hq⟩ : ∃ q, m.frames.length = q + 1 := ⟨m.frames.length - 1, by omega⟩
            have hql : q < m.frames.length := by omega
            obtain ⟨f, hfq⟩ : ∃ f, m.frames[q] = f := ⟨_, rfl⟩
            have hlast : m.frames.getLast? = some f := by rw [List.getLast?_eq_getElem?, hq, ← hfq]; simp
            have hmem : f ∈ m.frames := by rw [← hfq]; exact List.getElem_mem hql
            have hp0 := (hWI.all f hmem).2.2.1
            have hrch := (hWI.all f hmem).2.2.2
            have hps : ∀ g ∈ m.frames, 0 ≤ g.pos ∧ g.pos ≤ 1000 := fun g hg => by
              have h1 := (hWI.all g hg).2.2.1
              have h2 := hPI g hg
              omega
            obtain ⟨bf, of, rfl, _, v1, v2, d0, d1', d2', d3', d4, hfv⟩ := hK.out.2.1.get hql
            rw [hfq] at d0 d1' d2' hfv
            obtain ⟨as1, cs1, rfl⟩ := hfv.1.form
            obtain ⟨as2, cs2, rfl⟩ := hfv.2.form
            have HSE : Hid (steppedS (mainP a) m = { (stepS (mainP a) m).1 with fin := (stepS (mainP a) m).2 }) := by
              show _ = _
              unfold steppedS
              rw [HPO.out, hMB.out, if_pos (show (true && true) = true from rfl), if_pos hf]
            have HMB' : Hid (machB (steppedS (mainP a) m) = true) := by show _ = _; rw [HSE.out]; exact mach_step HPO.out hMB.out
            have HEND : Hid ((a.length : Int) ≤ f.pos → (steppedS (mainP a) m).fin = 6) := fun h => by rw [HSE.out]; exact way_end hlast h
            have HON : Hid ((steppedS (mainP a) m).fin = 0 → WayI a (steppedS (mainP a) m) ∧ PosI a (steppedS (mainP a) m) ∧ ∀ f', (steppedS (mainP a) m).frames.getLast? = some f' → (steppedS (mainP a) m).frames.length = m.frames.length → f.pos + 1 < (a.length : Int) → nxB a f.pos.toNat f'.pos.toNat = true ∧ 0 ≤ f'.pos) := by
              show _ → _
              rw [HSE.out]
              intro h0
              obtain ⟨g1, g2⟩ := way_step HOK.out hWI hlast h0
              exact ⟨⟨g1.all, g1.low⟩, pos_step HOK.out hWI hPI hlast h0, g2⟩
            have hfb : (m.fin == 0) = true := by simpa using hf
            have hqi : (m.frames.length : Int) - 1 = (q : Int) := by omega
            have hqlt : (q : Int) < (m.frames.length : Int) := by omega
            clear hq
            obtain ⟨V, hV⟩ : ∃ V, V = wr.alloc (.cells #[.int .i64 f.cls, .int .i64 f.name, .int .i64 f.pos, .slice as1 f.stk.length cs1, .slice as2 f.loc.length cs2] 49) := ⟨_, rfl⟩
            have hrV : Below wr.heap.size wr V := by rw [hV]; exact (Below.refl _ _).alloc (Nat.le_refl _) _
            have F0 : Hid (Cells V wr.heap.size [.int .i64 f.cls, .int .i64 f.name, .int .i64 f.pos, .slice as1 f.stk.length cs1, .slice as2 f.loc.length cs2]) := by rw [hV]; exact Cells.new wr _ rfl _ _
            have hNV : Below w21.heap.size w21 V := by rw [hV]; exact hb.alloc hb.size _
            have HMV : Hid (Cells V w21.heap.size [.slice b1 m.heap.length d1, .slice (some ⟨bf, of, none⟩) m.frames.length d2, .slice b3 m.said.length d3, .int .i64 m.fin, .int .i64 m.code]) := hM.out.on hrV
            have HKV : Hid (KV true 0 V (.slice b1 m.heap.length d1) (.slice (some ⟨bf, of, none⟩) m.frames.length d2) (.slice b3 m.said.length d3) m) := hK.out.on (Keep.of hrV)
            have HPSH : Hid (∀ g ∈ m.frames, 0 ≤ g.pos ∧ g.pos ≤ 1000) := hps
            have HMBm : Hid (machB m = true) := hMB.out
            obtain ⟨p0, _⟩ := (HALL.out _ hNV).2.2.2.1.g0
            clear hf hWI hPI hmc hfr hl0 hlast hmem hps hfv hWP hMB hK HSE
            go_upto_region 26 with fail
            rw [← hV]
            clear hV hM y1 f1 y3 f3 d0 d1' d2' d3' d4 hrV
            obtain ⟨z0, _⟩ := HMV.out.g0
            obtain ⟨z1, _⟩ := HMV.out.g1
            obtain ⟨z2, _⟩ := HMV.out.g2
            obtain ⟨z3, _⟩ := HMV.out.g3
            obtain ⟨z4, _⟩ := HMV.out.g4
            go_wp2_with fail
            have HSTP := specStepped_at 0 (mainP a) bp 0 1 HPO.out HSMP.out 0 m HMBm.out HPSH.out b1 (some ⟨bf, of, none⟩) b3 d1 d2 d3 V (HALL.out _ hNV).2.2.1 HKV.out
            rw [hPl] at HSTP
            refine HSTP.mono ?_
            clear HSTP
            rintro e w22 ⟨vh, vf, vs, ch, cf, Th, Tf, rfl, hown, hb22⟩
            obtain ⟨x1, y1, rfl⟩ := own_any hown.h.own
            obtain ⟨x2, y2, rfl⟩ := own_any hown.f.own
            obtain ⟨x3, y3, rfl⟩ := own_any hown.s
            generalize steppedS (mainP a) m = m' at *
            obtain ⟨X, hX⟩ : ∃ X, X = w22.alloc (.cells #[.slice x1 m'.heap.length y1, .slice x2 m'.frames.length y2, .slice x3 m'.said.length y3, .int .i64 m'.fin, .int .i64 m'.code] 44) := ⟨_, rfl⟩
            have h22X : Below w22.heap.size w22 X := by rw [hX]; exact (Below.refl _ _).alloc (Nat.le_refl _) _
            have hVX : Below V.heap.size V X := below_over hb22 h22X
            have hNX : Below w21.heap.size w21 X := below_over hNV hVX
            have C19 : Hid (Cells X w22.heap.size [.slice x1 m'.heap.length y1, .slice x2 m'.frames.length y2, .slice x3 m'.said.length y3, .int .i64 m'.fin, .int .i64 m'.code]) := by rw [hX]; exact Cells.new w22 _ rfl _ _
            have HOWN : Hid (MOwn V.heap.size X (.slice x1 m'.heap.length y1) (.slice x2 m'.frames.length y2) (.slice x3 m'.said.length y3) m' ch cf Th Tf) := hown.on h22X
            have HFX : Hid (Cells X wr.heap.size [.int .i64 f.cls, .int .i64 f.name, .int .i64 f.pos, .slice as1 f.stk.length cs1, .slice as2 f.loc.length cs2]) := F0.out.on hVX
            have HMX : Hid (Cells X w21.heap.size [.slice b1 m.heap.length d1, .slice (some ⟨bf, of, none⟩) m.frames.length d2, .slice b3 m.said.length d3, .int .i64 m.fin, .int .i64 m.code]) := HMV.out.on hVX
            have hwX : Below w.heap.size w X := (HALL.out _ hNX).2.2.2.2
            have hVM : w21.heap.size < V.heap.size := cell_lt HMV.out.g0.1
            clear hown hb22 h22X hVX z0 z1 z2 z3 z4 p0 HMV F0 HKV HPSH HMBm
            obtain ⟨z2, _⟩ := HFX.out.g2
            dsimp only
            go_upto_region 27 with fail
            rw [← hX]
            clear hX
            by_cases hge : (a.length : Int) ≤ f.pos
            · have h6 := HEND.out hge
              have z3 := C19.out.g3.1
              rw [h6] at z3
              clear h6
              go_wp2
              go_ret
              exact ⟨rfl, hwX⟩
            · have hplt : f.pos < (a.length : Int) := by omega
              have hnge : ¬ f.pos ≥ (a.length : Int) := by omega
              have hhas := rch_has HOK.out hp0 hplt (hrch hplt)
              go_wp2_with fail
              have HH := hasAt gr cr (rchA a) f.pos (by omega) X (HALL.out _ hNX).2.1
              rw [hhas] at HH
              refine HH.mono ?_
              clear HH hhas
              rintro e Y ⟨rfl, hXY⟩
              have hNY : Below w21.heap.size w21 Y := below_over hNX hXY
              have C19Y : Hid (Cells Y w22.heap.size [.slice x1 m'.heap.length y1, .slice x2 m'.frames.length y2, .slice x3 m'.said.length y3, .int .i64 m'.fin, .int .i64 m'.code]) := C19.out.on hXY
              have HOWNY : Hid (MOwn V.heap.size Y (.slice x1 m'.heap.length y1) (.slice x2 m'.frames.length y2) (.slice x3 m'.said.length y3) m' ch cf Th Tf) := HOWN.out.on hXY
              have HFY : Hid (Cells Y wr.heap.size [.int .i64 f.cls, .int .i64 f.name, .int .i64 f.pos, .slice as1 f.stk.length cs1, .slice as2 f.loc.length cs2]) := HFX.out.on hXY
              have HMY : Hid (Cells Y w21.heap.size [.slice b1 m.heap.length d1, .slice (some ⟨bf, of, none⟩) m.frames.length d2, .slice b3 m.said.length d3, .int .i64 m.fin, .int .i64 m.code]) := HMX.out.on hXY
              have hmc' := (mach_core m').1 HMB'.out
              have h30' := hmc'.1.f30
              clear C19 HOWN HFX HMX hXY hNX hwX HEND z2
              dsimp only
              go_upto_region 31 with fail
              go_cut [191] from 155 to 190 (fun v u => v = .bool false ∧ Below Y.heap.size Y u)
              case first =>
                by_cases hf0 : m'.fin = 0
                · obtain ⟨hWI', _, hway⟩ := HON.out hf0
                  have hfr' := hmc'.2.2.2 hf0
                  have hl0' : 0 < m'.frames.length := List.length_pos_iff.2 hfr'
                  have hfb' : (m'.fin == 0) = true := by simpa using hf0
                  by_cases hlen : m'.frames.length = m.frames.length
                  · have hlb : ((m'.frames.length : Int) == (m.frames.length : Int)) = true := by rw [hlen]; simp
                    obtain ⟨q', hq'⟩ : ∃ q', m'.frames.length = q' + 1 := ⟨m'.frames.length - 1, by omega⟩
                    have hql' : q' < m'.frames.length := by omega
                    obtain ⟨f', hfq'⟩ : ∃ f', m'.frames[q'] = f' := ⟨_, rfl⟩
                    have hlast' : m'.frames.getLast? = some f' := by rw [List.getLast?_eq_getElem?, hq', ← hfq']; simp
                    have hw2 := hway f' hlast' hlen
                    obtain ⟨bg, og, rfl, _, v1, v2, e0, e1, e2, e3, e4, _⟩ := HOWNY.out.kv.2.1.get hql'
                    rw [hfq'] at e0 e1 e2
                    have hqi' : (m'.frames.length : Int) - 1 = (q' : Int) := by omega
                    have hqlt' : (q' : Int) < (m'.frames.length : Int) := by omega
                    have lg : bg < Y.heap.size := cell_lt e2
                    obtain ⟨hb2, hhb⟩ : ∃ hb2, hb2 = decide (f'.pos ∈ nexA a f.pos) := ⟨_, rfl⟩
                    have HHB : hb2 = true ∨ ¬ f.pos + 1 < (a.length : Int) := by
                      by_cases hl : f.pos + 1 < (a.length : Int)
                      · left
                        rw [hhb]
                        exact nex_has HOK.out hp0 hplt (hw2 hl).2 (hw2 hl).1
                      · exact .inr hl
                    have hnl := nexA_len a f.pos
                    have HNX : Hid (∀ x, Below Y.heap.size Y x → Calls Try.prog 8 #[.slice (some ⟨ga, 0, none⟩) a.length ca, .int .i64 f.pos] x fun e w' => ∃ gy cy, e = .returned (.slice (some ⟨gy, 0, none⟩) (nexA a f.pos).length cy) ∧ IRow w' gy 0 (nexA a f.pos) ∧ Below x.heap.size x w') := fun x hx => by
                      refine (implNexts ga ca a f.pos (by omega) x (HALL.out _ (below_over hNY hx)).1).mono ?_
                      rintro e w' ⟨z, rfl, ⟨gy, cy, rfl, _, _, hy, _⟩, hb'⟩
                      exact ⟨gy, cy, rfl, hy, hb'⟩
                    have HHS : Hid (∀ x gy cy, IRow x gy 0 (nexA a f.pos) → Calls Try.prog 24 #[.slice (some ⟨gy, 0, none⟩) (nexA a f.pos).length cy, .int .i64 f'.pos] x fun e w' => e = .returned (.bool hb2) ∧ Below x.heap.size x w') := fun x gy cy h => by
                      rw [hhb]
                      exact hasAt gy cy (nexA a f.pos) f'.pos (by omega) x h
                    have HS : Hid (∀ x, Below Y.heap.size Y x → Below Y.heap.size Y x ∧ x.cell? ⟨w22.heap.size, 3, none⟩ = some (.int .i64 m'.fin) ∧ x.cell? ⟨w22.heap.size, 1, none⟩ = some (.slice (some ⟨bg, og, none⟩) m'.frames.length y2) ∧ x.cell? ⟨w21.heap.size, 1, none⟩ = some (.slice (some ⟨bf, of, none⟩) m.frames.length d2) ∧ x.cell? ⟨wr.heap.size, 2, none⟩ = some (.int .i64 f.pos) ∧ x.cell? ⟨bg, og + q' * 5 + 2, none⟩ = some (.int .i64 f'.pos)) := fun x hx =>
                      ⟨hx, (C19Y.out.on hx).g3.1, (C19Y.out.on hx).g1.1, (HMY.out.on hx).g1.1, (HFY.out.on hx).g2.1, (hx.cell lg).trans e2⟩
                    have KD := HS.out _ ((Below.refl Y.heap.size Y).drew)
                    clear hf0 hway hfr' hl0' hlen hq' hlast' hw2 e0 e1 e2 e3 e4 hmc' HON HMB' HMY HFY hhb hfq'
                    generalize (nexA a f.pos).length = nln at *
                    have hq0' : (0 : Int) ≤ (q' : Int) := by omega
                    have hqw1 : IntKind.i64.wrap (q' : Int) = (q' : Int) := by simp [IntKind.wrap, IntKind.signed, IntKind.bits]; omega
                    have hqw2 : IntKind.i64.wrap ((m'.frames.length : Int) - 1) = (q' : Int) := by rw [hqi']; exact hqw1
                    have hqw3 : IntKind.i64.wrap (f.pos + 1) = f.pos + 1 := by simp [IntKind.wrap, IntKind.signed, IntKind.bits]; omega
                    cases hb2
                    · have hpl : ¬ f.pos + 1 < (a.length : Int) := HHB.elim (fun h => by cases h) id
                      have hpd : decide (f.pos + 1 < (a.length : Int)) = false := by simp; omega
                      clear HHB HALL C19Y HOWNY HB HOK HPO HSMP HSF hWI' hp0 hrch
                      first
                        | (go_region_held3 (fun x => Below Y.heap.size Y x ∧ x.cell? ⟨w22.heap.size, 3, none⟩ = some (.int .i64 m'.fin) ∧ x.cell? ⟨w22.heap.size, 1, none⟩ = some (.slice (some ⟨bg, og, none⟩) m'.frames.length y2) ∧ x.cell? ⟨w21.heap.size, 1, none⟩ = some (.slice (some ⟨bf, of, none⟩) m.frames.length d2) ∧ x.cell? ⟨wr.heap.size, 2, none⟩ = some (.int .i64 f.pos) ∧ x.cell? ⟨bg, og + q' * 5 + 2, none⟩ = some (.int .i64 f'.pos))
                              (first | exact KD | assumption)
                              (first
                                | (go_at_call 8; refine (HNX.out _ KD.1).mono ?_; rintro e wA ⟨gy, cy, rfl, hy, hbA⟩; have KA := HS.out _ (below_over KD.1 hbA))
                                | (go_at_call 24; refine (HHS.out _ _ _ hy).mono ?_; rintro e wB ⟨rfl, hbB⟩; have KB := HS.out _ (below_over KA.1 hbB))))
                        | fail "held3 stands still"
                      go_wp2_with fail
                      go_meet
                      exact ⟨rfl, KB.1⟩
                    · clear HHB HALL C19Y HOWNY HB HOK HPO HSMP HSF hWI' hp0 hrch
                      refine wp_region_held_drew (S := (fun x => Below Y.heap.size Y x ∧ x.cell? ⟨w22.heap.size, 3, none⟩ = some (.int .i64 m'.fin) ∧ x.cell? ⟨w22.heap.size, 1, none⟩ = some (.slice (some ⟨bg, og, none⟩) m'.frames.length y2) ∧ x.cell? ⟨w21.heap.size, 1, none⟩ = some (.slice (some ⟨bf, of, none⟩) m.frames.length d2) ∧ x.cell? ⟨wr.heap.size, 2, none⟩ = some (.int .i64 f.pos) ∧ x.cell? ⟨bg, og + q' * 5 + 2, none⟩ = some (.int .i64 f'.pos))) (by kernel_rfl) KD (fun hHeld => ?_)
                      refine wpAnyH_take (i := 0) (oi := { dst := some 155, op := Op.fieldAddr 44 (Operand.tmp 19) 3, type := 0, pos := "laws.go:739", after := #[], guard := none }) (v := ?_) rfl (by kernel_rfl) (by kernel_rfl) (by kernel_rfl) (fun _ _ _ h => h) (Or.inl ⟨by rfl, ?_⟩) hHeld ?_
                      rotate_left 1
                      · intro w' hSw
                        obtain ⟨_, s1, s2, s3, s4, s5⟩ := hSw
                        go_simp
                        try with_reducible rfl
                      simp only [Act.put, List.setIfInBounds_toArray, List.set_cons_zero, List.set_cons_succ]
                      refine wpAnyH_take (i := 1) (oi := { dst := some 156, op := Op.load 2 (Operand.tmp 155), type := 2, pos := "laws.go:739", after := #[{ on := 0, ground := Ground.data }], guard := none }) (v := ?_) rfl (by kernel_rfl) (by kernel_rfl) (by kernel_rfl) (fun _ _ _ h => h) (Or.inl ⟨by rfl, ?_⟩) hHeld ?_
                      rotate_left 1
                      · intro w' hSw
                        obtain ⟨_, s1, s2, s3, s4, s5⟩ := hSw
                        go_simp
                        try with_reducible rfl
                      simp only [Act.put, List.setIfInBounds_toArray, List.set_cons_zero, List.set_cons_succ]
                      refine wpAnyH_take (i := 2) (oi := { dst := some 157, op := Op.binOp BinOp.eql 2 (Operand.tmp 156) (Operand.const (Value.int IntKind.i64 0)) 2, type := 4, pos := "laws.go:739", after := #[{ on := 1, ground := Ground.data }], guard := none }) (v := ?_) rfl (by kernel_rfl) (by kernel_rfl) (by kernel_rfl) (fun _ _ _ h => h) (Or.inl ⟨by rfl, ?_⟩) hHeld ?_
                      rotate_left 1
                      · intro w' hSw
                        obtain ⟨_, s1, s2, s3, s4, s5⟩ := hSw
                        go_simp
                        try with_reducible rfl
                      simp only [Act.put, List.setIfInBounds_toArray, List.set_cons_zero, List.set_cons_succ]
                      refine wpAnyH_take (i := 3) (oi := { dst := some 158, op := Op.move (Operand.tmp 157), type := 4, pos := "laws.go:739", after := #[{ on := 2, ground := Ground.data }], guard := none }) (v := ?_) rfl (by kernel_rfl) (by kernel_rfl) (by kernel_rfl) (fun _ _ _ h => h) (Or.inl ⟨by rfl, ?_⟩) hHeld ?_
                      rotate_left 1
                      · intro w' hSw
                        obtain ⟨_, s1, s2, s3, s4, s5⟩ := hSw
                        go_simp
                        try with_reducible rfl
                      simp only [Act.put, List.setIfInBounds_toArray, List.set_cons_zero, List.set_cons_succ]
                      refine wpAnyH_take (i := 4) (oi := { dst := some 159, op := Op.fieldAddr 44 (Operand.tmp 19) 1, type := 0, pos := "laws.go:739", after := #[{ on := 3, ground := Ground.guard }], guard := some (3, true) }) (v := ?_) rfl (by kernel_rfl) (by kernel_rfl) (by kernel_rfl) (fun _ _ _ h => h) (Or.inl ⟨by rfl, ?_⟩) hHeld ?_
                      rotate_left 1
                      · intro w' hSw
                        obtain ⟨_, s1, s2, s3, s4, s5⟩ := hSw
                        go_simp
                        try with_reducible rfl
                      simp only [Act.put, List.setIfInBounds_toArray, List.set_cons_zero, List.set_cons_succ]
                      refine wpAnyH_take (i := 5) (oi := { dst := some 160, op := Op.load 42 (Operand.tmp 159), type := 42, pos := "laws.go:739", after := #[{ on := 4, ground := Ground.data }, { on := 3, ground := Ground.guard }], guard := some (3, true) }) (v := ?_) rfl (by kernel_rfl) (by kernel_rfl) (by kernel_rfl) (fun _ _ _ h => h) (Or.inl ⟨by rfl, ?_⟩) hHeld ?_
                      rotate_left 1
                      · intro w' hSw
                        obtain ⟨_, s1, s2, s3, s4, s5⟩ := hSw
                        go_simp
                        try with_reducible rfl
                      simp only [Act.put, List.setIfInBounds_toArray, List.set_cons_zero, List.set_cons_succ]
                      refine wpAnyH_take (i := 6) (oi := { dst := some 161, op := Op.call { callee := Callee.builtin Builtin.len, args := #[Operand.tmp 160], argTypes := #[42] }, type := 3, pos := "laws.go:739", after := #[{ on := 5, ground := Ground.data }, { on := 3, ground := Ground.guard }], guard := some (3, true) }) (v := ?_) rfl (by kernel_rfl) (by kernel_rfl) (by kernel_rfl) (fun _ _ _ h => h) (Or.inl ⟨by rfl, ?_⟩) hHeld ?_
                      rotate_left 1
                      · intro w' hSw
                        obtain ⟨_, s1, s2, s3, s4, s5⟩ := hSw
                        go_simp
                        try with_reducible rfl
                      simp only [Act.put, List.setIfInBounds_toArray, List.set_cons_zero, List.set_cons_succ]
                      refine wpAnyH_take (i := 7) (oi := { dst := some 162, op := Op.fieldAddr 44 (Operand.tmp 15) 1, type := 0, pos := "laws.go:739", after := #[{ on := 3, ground := Ground.guard }], guard := some (3, true) }) (v := ?_) rfl (by kernel_rfl) (by kernel_rfl) (by kernel_rfl) (fun _ _ _ h => h) (Or.inl ⟨by rfl, ?_⟩) hHeld ?_
                      rotate_left 1
                      · intro w' hSw
                        obtain ⟨_, s1, s2, s3, s4, s5⟩ := hSw
                        go_simp
                        try with_reducible rfl
                      simp only [Act.put, List.setIfInBounds_toArray, List.set_cons_zero, List.set_cons_succ]
                      refine wpAnyH_take (i := 8) (oi := { dst := some 163, op := Op.load 42 (Operand.tmp 162), type := 42, pos := "laws.go:739", after := #[{ on := 7, ground := Ground.data }, { on := 3, ground := Ground.guard }], guard := some (3, true) }) (v := ?_) rfl (by kernel_rfl) (by kernel_rfl) (by kernel_rfl) (fun _ _ _ h => h) (Or.inl ⟨by rfl, ?_⟩) hHeld ?_
                      rotate_left 1
                      · intro w' hSw
                        obtain ⟨_, s1, s2, s3, s4, s5⟩ := hSw
                        go_simp
                        try with_reducible rfl
                      simp only [Act.put, List.setIfInBounds_toArray, List.set_cons_zero, List.set_cons_succ]
                      refine wpAnyH_take (i := 9) (oi := { dst := some 164, op := Op.call { callee := Callee.builtin Builtin.len, args := #[Operand.tmp 163], argTypes := #[42] }, type := 3, pos := "laws.go:739", after := #[{ on := 8, ground := Ground.data }, { on := 3, ground := Ground.guard }], guard := some (3, true) }) (v := ?_) rfl (by kernel_rfl) (by kernel_rfl) (by kernel_rfl) (fun _ _ _ h => h) (Or.inl ⟨by rfl, ?_⟩) hHeld ?_
                      rotate_left 1
                      · intro w' hSw
                        obtain ⟨_, s1, s2, s3, s4, s5⟩ := hSw
                        go_simp
                        try with_reducible rfl
                      simp only [Act.put, List.setIfInBounds_toArray, List.set_cons_zero, List.set_cons_succ]
                      refine wpAnyH_take (i := 10) (oi := { dst := some 165, op := Op.binOp BinOp.eql 3 (Operand.tmp 161) (Operand.tmp 164) 3, type := 4, pos := "laws.go:739", after := #[{ on := 6, ground := Ground.data }, { on := 9, ground := Ground.data }, { on := 3, ground := Ground.guard }], guard := some (3, true) }) (v := ?_) rfl (by kernel_rfl) (by kernel_rfl) (by kernel_rfl) (fun _ _ _ h => h) (Or.inl ⟨by rfl, ?_⟩) hHeld ?_
                      rotate_left 1
                      · intro w' hSw
                        obtain ⟨_, s1, s2, s3, s4, s5⟩ := hSw
                        go_simp
                        try with_reducible rfl
                      simp only [Act.put, List.setIfInBounds_toArray, List.set_cons_zero, List.set_cons_succ]
                      refine wpAnyH_take (i := 11) (oi := { dst := some 166, op := Op.pick (Operand.tmp 158) (Operand.tmp 165) (Operand.const (Value.bool false)), type := 4, pos := "laws.go:739", after := #[{ on := 3, ground := Ground.data }, { on := 10, ground := Ground.data }], guard := none }) (v := ?_) rfl (by kernel_rfl) (by kernel_rfl) (by kernel_rfl) (fun _ _ _ h => h) (Or.inl ⟨by rfl, ?_⟩) hHeld ?_
                      rotate_left 1
                      · intro w' hSw
                        obtain ⟨_, s1, s2, s3, s4, s5⟩ := hSw
                        go_simp
                        try with_reducible rfl
                      simp only [Act.put, List.setIfInBounds_toArray, List.set_cons_zero, List.set_cons_succ]
                      refine wpAnyH_take (i := 12) (oi := { dst := some 167, op := Op.move (Operand.tmp 166), type := 4, pos := "laws.go:739", after := #[{ on := 11, ground := Ground.data }, { on := 3, ground := Ground.chain }], guard := none }) (v := ?_) rfl (by kernel_rfl) (by kernel_rfl) (by kernel_rfl) (fun _ _ _ h => h) (Or.inl ⟨by rfl, ?_⟩) hHeld ?_
                      rotate_left 1
                      · intro w' hSw
                        obtain ⟨_, s1, s2, s3, s4, s5⟩ := hSw
                        go_simp
                        try with_reducible rfl
                      simp only [Act.put, List.setIfInBounds_toArray, List.set_cons_zero, List.set_cons_succ]
                      refine wpAnyH_take (i := 13) (oi := { dst := some 168, op := Op.move (Operand.tmp 6), type := 24, pos := "laws.go:739", after := #[{ on := 12, ground := Ground.guard }], guard := some (12, true) }) (v := ?_) rfl (by kernel_rfl) (by kernel_rfl) (by kernel_rfl) (fun _ _ _ h => h) (Or.inl ⟨by rfl, ?_⟩) hHeld ?_
                      rotate_left 1
                      · intro w' hSw
                        obtain ⟨_, s1, s2, s3, s4, s5⟩ := hSw
                        go_simp
                        try with_reducible rfl
                      simp only [Act.put, List.setIfInBounds_toArray, List.set_cons_zero, List.set_cons_succ]
                      refine wpAnyH_take (i := 14) (oi := { dst := some 169, op := Op.fieldAddr 49 (Operand.tmp 18) 2, type := 0, pos := "laws.go:739", after := #[{ on := 12, ground := Ground.guard }], guard := some (12, true) }) (v := ?_) rfl (by kernel_rfl) (by kernel_rfl) (by kernel_rfl) (fun _ _ _ h => h) (Or.inl ⟨by rfl, ?_⟩) hHeld ?_
                      rotate_left 1
                      · intro w' hSw
                        obtain ⟨_, s1, s2, s3, s4, s5⟩ := hSw
                        go_simp
                        try with_reducible rfl
                      simp only [Act.put, List.setIfInBounds_toArray, List.set_cons_zero, List.set_cons_succ]
                      refine wpAnyH_take (i := 15) (oi := { dst := some 170, op := Op.load 2 (Operand.tmp 169), type := 2, pos := "laws.go:739", after := #[{ on := 14, ground := Ground.data }, { on := 12, ground := Ground.guard }], guard := some (12, true) }) (v := ?_) rfl (by kernel_rfl) (by kernel_rfl) (by kernel_rfl) (fun _ _ _ h => h) (Or.inl ⟨by rfl, ?_⟩) hHeld ?_
                      rotate_left 1
                      · intro w' hSw
                        obtain ⟨_, s1, s2, s3, s4, s5⟩ := hSw
                        go_simp
                        try with_reducible rfl
                      simp only [Act.put, List.setIfInBounds_toArray, List.set_cons_zero, List.set_cons_succ]
                      refine wpAnyH_take (i := 17) (oi := { dst := some 172, op := Op.fieldAddr 44 (Operand.tmp 19) 1, type := 0, pos := "laws.go:739", after := #[{ on := 12, ground := Ground.guard }], guard := some (12, true) }) (v := ?_) rfl (by kernel_rfl) (by kernel_rfl) (by kernel_rfl) (fun _ _ _ h => h) (Or.inl ⟨by rfl, ?_⟩) hHeld ?_
                      rotate_left 1
                      · intro w' hSw
                        obtain ⟨_, s1, s2, s3, s4, s5⟩ := hSw
                        go_simp
                        try with_reducible rfl
                      simp only [Act.put, List.setIfInBounds_toArray, List.set_cons_zero, List.set_cons_succ]
                      refine wpAnyH_take (i := 18) (oi := { dst := some 173, op := Op.load 42 (Operand.tmp 172), type := 42, pos := "laws.go:739", after := #[{ on := 17, ground := Ground.data }, { on := 12, ground := Ground.guard }], guard := some (12, true) }) (v := ?_) rfl (by kernel_rfl) (by kernel_rfl) (by kernel_rfl) (fun _ _ _ h => h) (Or.inl ⟨by rfl, ?_⟩) hHeld ?_
                      rotate_left 1
                      · intro w' hSw
                        obtain ⟨_, s1, s2, s3, s4, s5⟩ := hSw
                        go_simp
                        try with_reducible rfl
                      simp only [Act.put, List.setIfInBounds_toArray, List.set_cons_zero, List.set_cons_succ]
                      refine wpAnyH_take (i := 19) (oi := { dst := some 174, op := Op.fieldAddr 44 (Operand.tmp 19) 1, type := 0, pos := "laws.go:739", after := #[{ on := 12, ground := Ground.guard }], guard := some (12, true) }) (v := ?_) rfl (by kernel_rfl) (by kernel_rfl) (by kernel_rfl) (fun _ _ _ h => h) (Or.inl ⟨by rfl, ?_⟩) hHeld ?_
                      rotate_left 1
                      · intro w' hSw
                        obtain ⟨_, s1, s2, s3, s4, s5⟩ := hSw
                        go_simp
                        try with_reducible rfl
                      simp only [Act.put, List.setIfInBounds_toArray, List.set_cons_zero, List.set_cons_succ]
                      refine wpAnyH_take (i := 20) (oi := { dst := some 175, op := Op.load 42 (Operand.tmp 174), type := 42, pos := "laws.go:739", after := #[{ on := 19, ground := Ground.data }, { on := 12, ground := Ground.guard }], guard := some (12, true) }) (v := ?_) rfl (by kernel_rfl) (by kernel_rfl) (by kernel_rfl) (fun _ _ _ h => h) (Or.inl ⟨by rfl, ?_⟩) hHeld ?_
                      rotate_left 1
                      · intro w' hSw
                        obtain ⟨_, s1, s2, s3, s4, s5⟩ := hSw
                        go_simp
                        try with_reducible rfl
                      simp only [Act.put, List.setIfInBounds_toArray, List.set_cons_zero, List.set_cons_succ]
                      refine wpAnyH_take (i := 21) (oi := { dst := some 176, op := Op.call { callee := Callee.builtin Builtin.len, args := #[Operand.tmp 175], argTypes := #[42] }, type := 3, pos := "laws.go:739", after := #[{ on := 20, ground := Ground.data }, { on := 12, ground := Ground.guard }], guard := some (12, true) }) (v := ?_) rfl (by kernel_rfl) (by kernel_rfl) (by kernel_rfl) (fun _ _ _ h => h) (Or.inl ⟨by rfl, ?_⟩) hHeld ?_
                      rotate_left 1
                      · intro w' hSw
                        obtain ⟨_, s1, s2, s3, s4, s5⟩ := hSw
                        go_simp
                        try with_reducible rfl
                      simp only [Act.put, List.setIfInBounds_toArray, List.set_cons_zero, List.set_cons_succ]
                      refine wpAnyH_take (i := 22) (oi := { dst := some 177, op := Op.binOp BinOp.sub 3 (Operand.tmp 176) (Operand.const (Value.int IntKind.i64 1)) 3, type := 3, pos := "laws.go:739", after := #[{ on := 21, ground := Ground.data }, { on := 12, ground := Ground.guard }], guard := some (12, true) }) (v := ?_) rfl (by kernel_rfl) (by kernel_rfl) (by kernel_rfl) (fun _ _ _ h => h) (Or.inl ⟨by rfl, ?_⟩) hHeld ?_
                      rotate_left 1
                      · intro w' hSw
                        obtain ⟨_, s1, s2, s3, s4, s5⟩ := hSw
                        go_simp
                        try with_reducible rfl
                      simp only [Act.put, List.setIfInBounds_toArray, List.set_cons_zero, List.set_cons_succ]
                      refine wpAnyH_take (i := 23) (oi := { dst := some 178, op := Op.indexAddr 42 (Operand.tmp 173) (Operand.tmp 177), type := 0, pos := "laws.go:739", after := #[{ on := 18, ground := Ground.data }, { on := 22, ground := Ground.data }, { on := 12, ground := Ground.guard }], guard := some (12, true) }) (v := ?_) rfl (by kernel_rfl) (by kernel_rfl) (by kernel_rfl) (fun _ _ _ h => h) (Or.inl ⟨by rfl, ?_⟩) hHeld ?_
                      rotate_left 1
                      · intro w' hSw
                        obtain ⟨_, s1, s2, s3, s4, s5⟩ := hSw
                        go_simp
                        try with_reducible rfl
                      simp only [Act.put, List.setIfInBounds_toArray, List.set_cons_zero, List.set_cons_succ]
                      refine wpAnyH_take (i := 24) (oi := { dst := some 179, op := Op.fieldAddr 49 (Operand.tmp 178) 2, type := 0, pos := "laws.go:739", after := #[{ on := 23, ground := Ground.data }, { on := 12, ground := Ground.guard }], guard := some (12, true) }) (v := ?_) rfl (by kernel_rfl) (by kernel_rfl) (by kernel_rfl) (fun _ _ _ h => h) (Or.inl ⟨by rfl, ?_⟩) hHeld ?_
                      rotate_left 1
                      · intro w' hSw
                        obtain ⟨_, s1, s2, s3, s4, s5⟩ := hSw
                        go_simp
                        try with_reducible rfl
                      simp only [Act.put, List.setIfInBounds_toArray, List.set_cons_zero, List.set_cons_succ]
                      refine wpAnyH_take (i := 25) (oi := { dst := some 180, op := Op.load 2 (Operand.tmp 179), type := 2, pos := "laws.go:739", after := #[{ on := 24, ground := Ground.data }, { on := 12, ground := Ground.guard }], guard := some (12, true) }) (v := ?_) rfl (by kernel_rfl) (by kernel_rfl) (by kernel_rfl) (fun _ _ _ h => h) (Or.inl ⟨by rfl, ?_⟩) hHeld ?_
                      rotate_left 1
                      · intro w' hSw
                        obtain ⟨_, s1, s2, s3, s4, s5⟩ := hSw
                        go_simp
                        try with_reducible rfl
                      simp only [Act.put, List.setIfInBounds_toArray, List.set_cons_zero, List.set_cons_succ]
                      refine wpAnyH_ready (rs := [16]) (by kernel_rfl) (by simp) ?_
                      refine AllReadyH.cons (o := { dst := some 171, op := Op.call { callee := Callee.value (Operand.func 8), args := #[Operand.tmp 168, Operand.tmp 170], argTypes := #[24, 2] }, type := 27, pos := "laws.go:739", after := #[{ on := 13, ground := Ground.data }, { on := 15, ground := Ground.data }, { on := 12, ground := Ground.chain }, { on := 12, ground := Ground.guard }], guard := some (12, true) }) rfl (fun K2 hK2 => ?_) AllReadyH.nil
                      go_simp
                      refine (HNX.out _ KD.1).mono ?_
                      rintro e wA ⟨gy, cy, rfl, hy, hbA⟩
                      have KA := HS.out _ (below_over KD.1 hbA)
                      dsimp only
                      refine hK2.out _ _ KA (fun hHeld => ?_)
                      clear hK2 K2
                      refine wpAnyH_ready (rs := [26]) (by kernel_rfl) (by simp) ?_
                      refine AllReadyH.cons (o := { dst := some 181, op := Op.call { callee := Callee.value (Operand.func 24), args := #[Operand.tmp 171, Operand.tmp 180], argTypes := #[27, 2] }, type := 4, pos := "laws.go:739", after := #[{ on := 16, ground := Ground.data }, { on := 25, ground := Ground.data }, { on := 16, ground := Ground.chain }, { on := 12, ground := Ground.guard }], guard := some (12, true) }) rfl (fun K2 hK2 => ?_) AllReadyH.nil
                      go_simp
                      refine (HHS.out _ _ _ hy).mono ?_
                      rintro e wB ⟨rfl, hbB⟩
                      have KB := HS.out _ (below_over KA.1 hbB)
                      dsimp only
                      refine hK2.out _ _ KB (fun hHeld => ?_)
                      clear hK2 K2
                      refine wpAnyH_take (i := 27) (oi := { dst := some 182, op := Op.unOp UnOp.not 4 (Operand.tmp 181), type := 4, pos := "laws.go:739", after := #[{ on := 26, ground := Ground.data }, { on := 12, ground := Ground.guard }], guard := some (12, true) }) (v := ?_) rfl (by kernel_rfl) (by kernel_rfl) (by kernel_rfl) (fun _ _ _ h => h) (Or.inl ⟨by rfl, ?_⟩) hHeld ?_
                      rotate_left 1
                      · intro w' hSw
                        obtain ⟨_, s1, s2, s3, s4, s5⟩ := hSw
                        go_simp
                        try with_reducible rfl
                      simp only [Act.put, List.setIfInBounds_toArray, List.set_cons_zero, List.set_cons_succ]
                      refine wpAnyH_take (i := 28) (oi := { dst := some 183, op := Op.pick (Operand.tmp 167) (Operand.tmp 182) (Operand.const (Value.bool false)), type := 4, pos := "laws.go:739", after := #[{ on := 12, ground := Ground.data }, { on := 27, ground := Ground.data }], guard := none }) (v := ?_) rfl (by kernel_rfl) (by kernel_rfl) (by kernel_rfl) (fun _ _ _ h => h) (Or.inl ⟨by rfl, ?_⟩) hHeld ?_
                      rotate_left 1
                      · intro w' hSw
                        obtain ⟨_, s1, s2, s3, s4, s5⟩ := hSw
                        go_simp
                        try with_reducible rfl
                      simp only [Act.put, List.setIfInBounds_toArray, List.set_cons_zero, List.set_cons_succ]
                      refine wpAnyH_take (i := 29) (oi := { dst := some 184, op := Op.move (Operand.tmp 183), type := 4, pos := "laws.go:739", after := #[{ on := 28, ground := Ground.data }, { on := 26, ground := Ground.chain }], guard := none }) (v := ?_) rfl (by kernel_rfl) (by kernel_rfl) (by kernel_rfl) (fun _ _ _ h => h) (Or.inl ⟨by rfl, ?_⟩) hHeld ?_
                      rotate_left 1
                      · intro w' hSw
                        obtain ⟨_, s1, s2, s3, s4, s5⟩ := hSw
                        go_simp
                        try with_reducible rfl
                      simp only [Act.put, List.setIfInBounds_toArray, List.set_cons_zero, List.set_cons_succ]
                      refine wpAnyH_take (i := 30) (oi := { dst := some 185, op := Op.fieldAddr 49 (Operand.tmp 18) 2, type := 0, pos := "laws.go:739", after := #[{ on := 29, ground := Ground.guard }], guard := some (29, true) }) (v := undef) rfl (by kernel_rfl) (by kernel_rfl) (by kernel_rfl) (fun _ _ _ h => h) (Or.inr ⟨by rfl, rfl⟩) hHeld ?_
                      simp only [Act.put, List.setIfInBounds_toArray, List.set_cons_zero, List.set_cons_succ]
                      refine wpAnyH_take (i := 31) (oi := { dst := some 186, op := Op.load 2 (Operand.tmp 185), type := 2, pos := "laws.go:739", after := #[{ on := 30, ground := Ground.data }, { on := 29, ground := Ground.guard }], guard := some (29, true) }) (v := undef) rfl (by kernel_rfl) (by kernel_rfl) (by kernel_rfl) (fun _ _ _ h => h) (Or.inr ⟨by rfl, rfl⟩) hHeld ?_
                      simp only [Act.put, List.setIfInBounds_toArray, List.set_cons_zero, List.set_cons_succ]
                      refine wpAnyH_take (i := 32) (oi := { dst := some 187, op := Op.binOp BinOp.add 2 (Operand.tmp 186) (Operand.const (Value.int IntKind.i64 1)) 2, type := 2, pos := "laws.go:739", after := #[{ on := 31, ground := Ground.data }, { on := 29, ground := Ground.guard }], guard := some (29, true) }) (v := undef) rfl (by kernel_rfl) (by kernel_rfl) (by kernel_rfl) (fun _ _ _ h => h) (Or.inr ⟨by rfl, rfl⟩) hHeld ?_
                      simp only [Act.put, List.setIfInBounds_toArray, List.set_cons_zero, List.set_cons_succ]
                      refine wpAnyH_take (i := 33) (oi := { dst := some 188, op := Op.move (Operand.tmp 6), type := 24, pos := "laws.go:739", after := #[{ on := 29, ground := Ground.guard }], guard := some (29, true) }) (v := undef) rfl (by kernel_rfl) (by kernel_rfl) (by kernel_rfl) (fun _ _ _ h => h) (Or.inr ⟨by rfl, rfl⟩) hHeld ?_
                      simp only [Act.put, List.setIfInBounds_toArray, List.set_cons_zero, List.set_cons_succ]
                      refine wpAnyH_take (i := 34) (oi := { dst := some 189, op := Op.call { callee := Callee.builtin Builtin.len, args := #[Operand.tmp 188], argTypes := #[24] }, type := 3, pos := "laws.go:739", after := #[{ on := 33, ground := Ground.data }, { on := 29, ground := Ground.guard }], guard := some (29, true) }) (v := undef) rfl (by kernel_rfl) (by kernel_rfl) (by kernel_rfl) (fun _ _ _ h => h) (Or.inr ⟨by rfl, rfl⟩) hHeld ?_
                      simp only [Act.put, List.setIfInBounds_toArray, List.set_cons_zero, List.set_cons_succ]
                      refine wpAnyH_take (i := 35) (oi := { dst := some 190, op := Op.binOp BinOp.lss 2 (Operand.tmp 187) (Operand.tmp 189) 2, type := 4, pos := "laws.go:739", after := #[{ on := 32, ground := Ground.data }, { on := 34, ground := Ground.data }, { on := 29, ground := Ground.guard }], guard := some (29, true) }) (v := undef) rfl (by kernel_rfl) (by kernel_rfl) (by kernel_rfl) (fun _ _ _ h => h) (Or.inr ⟨by rfl, rfl⟩) hHeld ?_
                      simp only [Act.put, List.setIfInBounds_toArray, List.set_cons_zero, List.set_cons_succ]
                      refine wpAnyH_take (i := 36) (oi := { dst := some 191, op := Op.pick (Operand.tmp 184) (Operand.tmp 190) (Operand.const (Value.bool false)), type := 4, pos := "laws.go:739", after := #[{ on := 29, ground := Ground.data }, { on := 35, ground := Ground.data }], guard := none }) (v := ?_) rfl (by kernel_rfl) (by kernel_rfl) (by kernel_rfl) (fun _ _ _ h => h) (Or.inl ⟨by rfl, ?_⟩) hHeld ?_
                      rotate_left 1
                      · intro w' hSw
                        obtain ⟨_, s1, s2, s3, s4, s5⟩ := hSw
                        go_simp
                        try with_reducible rfl
                      simp only [Act.put, List.setIfInBounds_toArray, List.set_cons_zero, List.set_cons_succ]
                      refine wpAnyH_done (by kernel_rfl) ?_ _
                      go_wp2_with fail
                      go_meet
                      exact ⟨rfl, KB.1⟩
                  · have hlb : ((m'.frames.length : Int) == (m.frames.length : Int)) = false := by simp; omega
                    have z3 := cell_regrown C19Y.out.g3.1
                    have z1 := cell_regrown C19Y.out.g1.1
                    have z0 := cell_regrown HMY.out.g1.1
                    clear hway hfr' hl0' hmc' HON HMB' hf0 hlen
                    refine wp_region_quiet_below (by kernel_rfl) (by kernel_rfl) ?_
                    repeat (go_big_quiet_step (fail))
                    refine wpQuiet_nil ?_
                    intro _ hw'
                    obtain ⟨⟨dq, osq⟩, hw''⟩ := hw'
                    subst hw''
                    have hq := below_regrown Y dq osq
                    generalize Sort.grow (redrawn Y dq) osq = w4 at *
                    go_wp2_with fail
                    go_meet
                    exact ⟨rfl, hq⟩
                · have hfb' : (m'.fin == 0) = false := by simpa using hf0
                  have z3 := cell_regrown C19Y.out.g3.1
                  clear hmc' HON HMB' hf0
                  refine wp_region_quiet_below (by kernel_rfl) (by kernel_rfl) ?_
                  repeat (go_big_quiet_step (fail))
                  refine wpQuiet_nil ?_
                  intro _ hw'
                  obtain ⟨⟨dq, osq⟩, hw''⟩ := hw'
                  subst hw''
                  have hq := below_regrown Y dq osq
                  generalize Sort.grow (redrawn Y dq) osq = w4 at *
                  go_wp2_with fail
                  go_meet
                  exact ⟨rfl, hq⟩
              case rest =>
                obtain ⟨rfl, hYU⟩ := hcut
                have hNU : Below w21.heap.size w21 wc := below_over hNY hYU
                have MU := HMY.out.on hYU
                have CU := C19Y.out.on hYU
                have R5 := five_cells MU (.slice x1 m'.heap.length y1) (.slice x2 m'.frames.length y2) (.slice x3 m'.said.length y3) (.int .i64 m'.fin) (.int .i64 m'.code)
                have HBF := five_below hNU (Nat.le_refl _) (.slice x1 m'.heap.length y1) (.slice x2 m'.frames.length y2) (.slice x3 m'.said.length y3) (.int .i64 m'.fin) (.int .i64 m'.code)
                have HKF : Hid (KV true 0 (((((wc.setCell ⟨w21.heap.size, 0, none⟩ (.slice x1 m'.heap.length y1)).setCell ⟨w21.heap.size, 1, none⟩ (.slice x2 m'.frames.length y2)).setCell ⟨w21.heap.size, 2, none⟩ (.slice x3 m'.said.length y3)).setCell ⟨w21.heap.size, 3, none⟩ (.int .i64 m'.fin)).setCell ⟨w21.heap.size, 4, none⟩ (.int .i64 m'.code)) (.slice x1 m'.heap.length y1) (.slice x2 m'.frames.length y2) (.slice x3 m'.said.length y3) m') := by
                  have HU := HOWNY.out.on hYU
                  refine (HU.moved (by simp) fun k hk => ?_).kv
                  have hl := HU.low k hk
                  have hne : w21.heap.size ≠ k := by omega
                  rw [set_blocks _ _ _ _ hne, set_blocks _ _ _ _ hne, set_blocks _ _ _ _ hne, set_blocks _ _ _ _ hne, set_blocks _ _ _ _ hne]
                obtain ⟨r0, q0⟩ := MU.g0
                obtain ⟨r1, q1⟩ := MU.g1
                obtain ⟨r2, q2⟩ := MU.g2
                obtain ⟨r3, q3⟩ := MU.g3
                obtain ⟨r4, q4⟩ := MU.g4
                obtain ⟨e0, _⟩ := CU.g0
                obtain ⟨e1, _⟩ := CU.g1
                obtain ⟨e2, _⟩ := CU.g2
                obtain ⟨e3, _⟩ := CU.g3
                obtain ⟨e4, _⟩ := CU.g4
                have HR5 : Hid _ := R5
                have HBFH : Hid _ := HBF
                clear MU CU R5 HBF hmc' hNU hYU
                go_wp2
                go_roundw
                case rel =>
                  exact ⟨k + 1, m', x1, x2, x3, y1, y2, y3, by omega, by go_num, HR5.out, HKF.out, HMB'.out, fun h => ⟨(HON.out h).1, (HON.out h).2.1⟩, HBFH.out⟩
                case measure => simp [intOf]; omega
          · have hfb : (m.fin == 0) = false := by simpa using hf
            clear hf
            go_wp2
            go_ret
            exact ⟨rfl, hwr⟩
        · have hki : ¬ (k : Int) < 60 := by omega
          go_wp2
          go_ret
          exact ⟨rfl, hwr⟩
end Pg
end Go.Proofs.Ytffkkhaiedhaiaa
