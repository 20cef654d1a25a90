/- The walk of the law FnLayouts: over bytes of at most 4096 cells it returns true, and nothing old has turned. -/
import Derived.Test.YtnlanikjlokboaaDr7
import Derived.Test.YtnlanikjlokboaaLayM
import Derived.BigQuiet
namespace Go.Proofs.Ytnlanikjlokboaa
namespace St
open Go.ChangeShapes Go.WideShapes Go.ChangeAt Go.RowKit

theorem lays_big (w : World) (a0 : Option Addr) (len cap : Nat) (hl : ¬ len ≤ 4096) :
    Calls Try.prog 3 #[.slice a0 len cap] w fun e w' => e = .returned (.bool true) ∧ Below w.heap.size w w' := by
  have hnb : decide ((4096 : Int) < (len : Int)) = true := by simp; omega
  go_enter Try.func3, Try.ntmps3
  go_wp2_with (go_at_call 7; refine (Cu.big_at _ _ _ _).mono ?_; rintro e w1 ⟨rfl, rfl⟩)
  go_ret
  exact ⟨rfl, Below.refl _ _⟩

/-- The round of the law's loop, in short: what stands. -/
structure LSt (w : World) (g g' gx : Nat) (l : List Tx.Ins) (v : List Int) (wr : World) : Prop where
  row : Row wr g 0 l
  wide : IRow wr g' 0 v
  lay : IRow wr gx 0 (Lay.layF l)
  below : Below w.heap.size w wr
theorem LSt.on {w : World} {g g' gx : Nat} {l : List Tx.Ins} {v : List Int} {u wr : World} (h : LSt w g g' gx l v u) (hb : Below u.heap.size u wr) : LSt w g g' gx l v wr :=
  ⟨h.row.on hb, h.wide.on hb, h.lay.on hb, below_over h.below hb⟩
theorem wd_get {v : List Int} {k : Nat} (hk : k < v.length) : Lay.wd v k = v[k] := by simp [Lay.wd, hk]

set_option maxRecDepth 100000 in
set_option maxHeartbeats 4000000 in
theorem lays_small (w : World) (a0 : Option Addr) (len cap : Nat) (hB : Cu.Bytes w.heap.size w a0 len) :
    Calls Try.prog 3 #[.slice a0 len cap] w fun e w' => e = .returned (.bool true) ∧ Below w.heap.size w w' := by
  obtain ⟨i0, hif, hz0, hz1, hz2⟩ := info_parts infoN
  have hl := hB.1
  have hnb : decide ((4096 : Int) < (len : Int)) = false := by simp; omega
  have HB : Hid (Cu.Bytes w.heap.size w a0 len) := hB
  clear hB
  go_enter Try.func3, Try.ntmps3
  go_wp2_with fail
  refine (Cu.big_at _ _ _ _).mono ?_
  rintro e w1 ⟨rfl, rfl⟩
  go_wp2_with fail
  refine (Cu.drawLayOk_at w.heap.size _ _ _ _ HB.out (Nat.le_refl _)).mono ?_
  rintro e w1 ⟨g, cl, l, g', cv, v, rfl, h1, h2, hll, hvl, hb1⟩
  have HR1 : Hid (Row w1 g 0 l) := h1
  have HI1 : Hid (IRow w1 g' 0 v) := h2
  clear h1 h2 HB hnb hl
  obtain ⟨is, his⟩ : ∃ is, is = (Lay.codeOk l && Lay.rightB l v) := ⟨_, rfl⟩
  have HIS : Hid (is = (Lay.codeOk l && Lay.rightB l v)) := his
  clear his
  go_wp2_with fail
  refine (implLayoutOk g cl g' cv l v (by omega) _ HR1.out HI1.out).mono ?_
  rw [← HIS.out]
  rintro e w2 ⟨rfl, hb2⟩
  have HR2 : Hid (Row w2 g 0 l) := HR1.out.on hb2
  have HI2 : Hid (IRow w2 g' 0 v) := HI1.out.on hb2
  have hw2 : Below w.heap.size w w2 := below_over hb1 hb2
  clear HR1 HI1 hb2 hb1
  go_wp2_with fail
  refine (implLayoutOf g cl l (by omega) _ HR2.out).mono ?_
  rintro e w3 ⟨x, rfl, ⟨gx, cx, rfl, _, _, hx3, _⟩, hb3⟩
  have HR3 : Hid (Row w3 g 0 l) := HR2.out.on hb3
  have HI3 : Hid (IRow w3 g' 0 v) := HI2.out.on hb3
  have HX3 : Hid (IRow w3 gx 0 (layC l)) := hx3
  have hw3 : Below w.heap.size w w3 := below_over hw2 hb3
  clear HR2 HI2 hb3 hw2 hx3
  go_wp2_with fail
  refine (specLayoutOk g cl g' cv l v (by omega) _ HR3.out HI3.out).mono ?_
  rw [← HIS.out]
  rintro e w4 ⟨rfl, hb4⟩
  have HR4 : Hid (Row w4 g 0 l) := HR3.out.on hb4
  have HI4 : Hid (IRow w4 g' 0 v) := HI3.out.on hb4
  have HX4 : Hid (IRow w4 gx 0 (layC l)) := HX3.out.on hb4
  have hw4 : Below w.heap.size w w4 := below_over hw3 hb4
  clear HR3 HI3 HX3 hb4 hw3
  have hnn : (is != is) = false := by cases is <;> rfl
  go_wp2_with fail
  refine (specLayoutOf g cl l (by omega) _ HR4.out).mono ?_
  rintro e w5 ⟨x, rfl, ⟨gy, cy, rfl, _, _, hy5, _⟩, hb5⟩
  have HR5 : Hid (Row w5 g 0 l) := HR4.out.on hb5
  have HI5 : Hid (IRow w5 g' 0 v) := HI4.out.on hb5
  have HX5 : Hid (IRow w5 gx 0 (layC l)) := HX4.out.on hb5
  have HY5 : Hid (IRow w5 gy 0 (layC l)) := hy5
  have hw5 : Below w.heap.size w w5 := below_over hw4 hb5
  clear HR4 HI4 HX4 hb5 hw4 hy5
  have hlc : (layC l).length ≤ 1048576 := by have := Cu.layC_len l; omega
  go_wp2_with fail
  refine (likeSame gx gy cx cy (layC l) hlc _ HX5.out HY5.out).mono ?_
  rintro e w6 ⟨rfl, hb6⟩
  have HR6 : Hid (Row w6 g 0 l) := HR5.out.on hb6
  have HI6 : Hid (IRow w6 g' 0 v) := HI5.out.on hb6
  have HX6 : Hid (IRow w6 gx 0 (layC l)) := HX5.out.on hb6
  have hw6 : Below w.heap.size w w6 := below_over hw5 hb6
  clear HR5 HI5 HX5 HY5 hb6 hw5
  obtain ⟨ok, hok⟩ : ∃ ok, ok = Lay.codeOk l := ⟨_, rfl⟩
  have HOK : Hid (ok = Lay.codeOk l) := hok
  clear hok
  go_wp2_with fail
  refine (implCodeOk g cl l (by omega) _ HR6.out).mono ?_
  rw [← HOK.out]
  rintro e w7 ⟨rfl, hb7⟩
  have HR7 : Hid (Row w7 g 0 l) := HR6.out.on hb7
  have HI7 : Hid (IRow w7 g' 0 v) := HI6.out.on hb7
  have HX7 : Hid (IRow w7 gx 0 (layC l)) := HX6.out.on hb7
  have hw7 : Below w.heap.size w w7 := below_over hw6 hb7
  clear HR6 HI6 HX6 hb7 hw6
  go_wp2_with fail
  refine (specCodeOk g cl l (by omega) _ HR7.out).mono ?_
  rw [← HOK.out]
  rintro e w8 ⟨rfl, hb8⟩
  have HR8 : Hid (Row w8 g 0 l) := HR7.out.on hb8
  have HI8 : Hid (IRow w8 g' 0 v) := HI7.out.on hb8
  have HX8 : Hid (IRow w8 gx 0 (layC l)) := HX7.out.on hb8
  have hw8 : Below w.heap.size w w8 := below_over hw7 hb8
  clear HR7 HI7 HX7 hb8 hw7
  have hnk : (ok != ok) = false := by cases ok <;> rfl
  cases ok
  · have HE : Hid ((layC l).length = 0) := by
      show _ = _
      unfold layC
      rw [← HOK.out]; rfl
    have HF : Hid (is = false) := by
      show _ = _
      rw [HIS.out, ← HOK.out]; rfl
    obtain rfl : is = false := HF.out
    rw [HE.out]
    clear HE HF hnn
    go_wp2_with fail
    refine (specCodeOk g cl l (by omega) _ HR8.out).mono ?_
    rw [← HOK.out]
    rintro e w9 ⟨rfl, hb9⟩
    have hw9 : Below w.heap.size w w9 := below_over hw8 hb9
    clear hb9
    go_wp2
    go_ret
    exact ⟨rfl, hw9⟩
  · have HE : layC l = Lay.layF l := by
      unfold layC
      rw [← HOK.out]; rfl
    rw [HE] at HX8 ⊢
    have HPOS := (Lay.ok_len HOK.out.symm).1
    have hxl : (Lay.layF l).length = l.length := Lay.lay_len l
    rw [hxl]
    clear hlc
    have hpos : ¬ ((l.length : Int) = 0) := by omega
    have HXL : Hid ((Lay.layF l).length = l.length) := hxl
    have HV : Hid (is = true → Lay.rightB l v = true) := fun h => by
      rw [HIS.out, ← HOK.out] at h
      simpa using h
    clear HE hxl HIS hnn
    go_wp2_with fail
    have hlo := implLayoutOk g cl gx cx l (Lay.layF l) (by omega) w8 HR8.out HX8.out
    rw [HXL.out, ← HOK.out, Lay.lay_right l] at hlo
    refine hlo.mono ?_
    clear hlo
    rintro e w9 ⟨rfl, hb9⟩
    have HS9 : Hid (LSt w g g' gx l v w9) := LSt.on ⟨HR8.out, HI8.out, HX8.out, hw8⟩ hb9
    clear HR8 HI8 HX8 hb9 hw8
    go_wp2
    go_loopw [7] (fun i wr => ∃ k : Nat, k ≤ l.length ∧ i = .int .i64 k ∧ Hid (LSt w g g' gx l v wr)) (fun i _ => l.length - (intOf i).toNat)
    case atStart => exact ⟨0, Nat.zero_le _, rfl, HS9.out⟩
    case round =>
      clear HS9
      obtain ⟨k, hk, rfl, hst⟩ := hrel
      by_cases hlt : k < l.length
      · have hki : (k : Int) < (l.length : Int) := by omega
        have hki0 : (0 : Int) ≤ (k : Int) := by omega
        have hkx : k < (Lay.layF l).length := by rw [HXL.out]; exact hlt
        have c0 := hst.out.lay k _ (List.getElem?_eq_getElem hkx)
        have HWD : Hid (Lay.wd (Lay.layF l) k = (Lay.layF l)[k]) := wd_get hkx
        generalize (Lay.layF l)[k] = z at *
        rw [Nat.zero_add] at c0
        clear hkx
        cases his : is
        · subst his
          go_wp2_with fail
          refine wp_region_quiet_below (by kernel_rfl) (by kernel_rfl) ?_
          repeat (go_big_quiet_step (fail))
          refine wpQuiet_nil ?_
          intro _ hw'
          obtain ⟨⟨dq, osq⟩, hw''⟩ := hw'
          subst hw''
          have HSQ : Hid (LSt w g g' gx l v (Sort.grow (redrawn wr dq) osq)) := hst.out.on (below_regrown wr dq osq)
          have c1 := cell_regrown c0 dq osq
          clear hst c0
          generalize Sort.grow (redrawn wr dq) osq = wq at *
          by_cases hz1' : z = 1
          · subst hz1'
            go_wp2_with (at_builtin; refine wpList_append_own _ rfl _ _ 25 rfl wq.heap.size 2 i0 (.int .i64 0) 1 8 Try.underlying25 hif hz0 hz1 hz2 rfl (by decide) _ _ _ rfl (World.ownsRow_made wq #[] 0 (Nat.le_refl _) (by decide) (by simp)) ⟨gx, 0, none⟩ l.length cx (ints (Lay.layF l)) rfl ?cl ?c1 ?c2 ?c3 ?c4 ?c5 ?_)
            case cl => unfold ints; rw [List.length_map, HXL.out, Nat.mul_one]
            case c1 => exact Cu.row_ints (HSQ.out.lay.on ((Below.refl _ _).alloc (Nat.le_refl _) _))
            case c2 => intro u hu; unfold ints at hu; obtain ⟨y, _, rfl⟩ := List.mem_map.1 hu; rfl
            case c3 => unfold maxLen; omega
            case c4 => omega
            case c5 => simp
            intro v' wa hown hgrow hnil
            have hba : Below wq.heap.size wq wa := ((Below.refl _ _).alloc (Nat.le_refl _) _).grown hgrow (by simp) (fun g hg => by simp [Value.ownBlock] at hg; omega)
            have hvn : v' ≠ .slice none 0 0 := fun h => by first | exact hnil h | exact absurd (hnil.1 h).1 (by simp)
            have hown2 : wa.ownsRow wq.heap.size 2 1 v' (Lay.layF l).length (ints (Lay.layF l)) := by
              rw [HXL.out]
              simpa using hown
            obtain ⟨gn, cn, rfl, hBn, hgn, hin, hmn⟩ := igot_of hown2 hvn
            rw [HXL.out] at hmn ⊢
            obtain ⟨⟨_, dk⟩, fk⟩ := hmn k hlt
            have HIN : Hid (IRow (wa.setCell ⟨gn, k, none⟩ (.int .i64 0)) gn 0 ((Lay.layF l).set k 0)) := irow_set 0 hin
            have HSA : Hid (LSt w g g' gx l v (wa.setCell ⟨gn, k, none⟩ (.int .i64 0))) := HSQ.out.on (hba.setCell (p := ⟨gn, k, none⟩) hBn _)
            have HC : Hid (Lay.rightB l ((Lay.layF l).set k 0) = false) := Lay.lay_cut hlt HWD.out
            clear hown hown2 hgrow hnil hvn hba hin hmn HSQ c1
            go_wp2_with fail
            have hlo := implLayoutOk g cl gn cn l ((Lay.layF l).set k 0) (by omega) (wa.setCell ⟨gn, k, none⟩ (.int .i64 0)) HSA.out.row HIN.out
            rw [List.length_set, HXL.out, ← HOK.out, HC.out] at hlo
            refine hlo.mono ?_
            clear hlo
            rintro e wb ⟨rfl, hbb⟩
            have HSB : Hid (LSt w g g' gx l v wb) := HSA.out.on hbb
            clear hbb HSA HIN
            go_wp2
            go_roundw
            case rel => exact ⟨k + 1, by omega, by go_num, HSB.out⟩
            case measure => simp [intOf]; omega
          · have hzb : (z == 1) = false := by simpa using hz1'
            go_wp2
            go_roundw
            case rel => exact ⟨k + 1, by omega, by go_num, HSQ.out⟩
            case measure => simp [intOf]; omega
        · subst his
          have hvr : Lay.rightB l v = true := HV.out rfl
          have hvlen : v.length = l.length := Lay.right_len hvr
          have hkv : k < v.length := by omega
          have d0 := hst.out.wide k _ (List.getElem?_eq_getElem hkv)
          have hzy : z ≤ v[k] := by
            have := Lay.lay_le hvr k
            rw [HWD.out, wd_get hkv] at this
            exact this
          rw [hvlen]
          generalize v[k] = y at *
          rw [Nat.zero_add] at d0
          have r0 := cell_regrown c0
          have r1 := cell_regrown d0
          have hng : ¬ (y < z) := by omega
          go_wp2_with fail
          refine wp_region_quiet_below (by kernel_rfl) (by kernel_rfl) ?_
          repeat (go_big_quiet_step (fail))
          refine wpQuiet_nil ?_
          intro _ hw'
          obtain ⟨⟨dq, osq⟩, hw''⟩ := hw'
          subst hw''
          have HSQ : Hid (LSt w g g' gx l v (Sort.grow (redrawn wr dq) osq)) := hst.out.on (below_regrown wr dq osq)
          have c1 := cell_regrown c0 dq osq
          clear hst c0 d0 r0 r1
          generalize Sort.grow (redrawn wr dq) osq = wq at *
          by_cases hz1' : z = 1
          · subst hz1'
            go_wp2_with (at_builtin; refine wpList_append_own _ rfl _ _ 25 rfl wq.heap.size 2 i0 (.int .i64 0) 1 8 Try.underlying25 hif hz0 hz1 hz2 rfl (by decide) _ _ _ rfl (World.ownsRow_made wq #[] 0 (Nat.le_refl _) (by decide) (by simp)) ⟨gx, 0, none⟩ l.length cx (ints (Lay.layF l)) rfl ?cl ?c1 ?c2 ?c3 ?c4 ?c5 ?_)
            case cl => unfold ints; rw [List.length_map, HXL.out, Nat.mul_one]
            case c1 => exact Cu.row_ints (HSQ.out.lay.on ((Below.refl _ _).alloc (Nat.le_refl _) _))
            case c2 => intro u hu; unfold ints at hu; obtain ⟨y, _, rfl⟩ := List.mem_map.1 hu; rfl
            case c3 => unfold maxLen; omega
            case c4 => omega
            case c5 => simp
            intro v' wa hown hgrow hnil
            have hba : Below wq.heap.size wq wa := ((Below.refl _ _).alloc (Nat.le_refl _) _).grown hgrow (by simp) (fun g hg => by simp [Value.ownBlock] at hg; omega)
            have hvn : v' ≠ .slice none 0 0 := fun h => by first | exact hnil h | exact absurd (hnil.1 h).1 (by simp)
            have hown2 : wa.ownsRow wq.heap.size 2 1 v' (Lay.layF l).length (ints (Lay.layF l)) := by
              rw [HXL.out]
              simpa using hown
            obtain ⟨gn, cn, rfl, hBn, hgn, hin, hmn⟩ := igot_of hown2 hvn
            rw [HXL.out] at hmn ⊢
            obtain ⟨⟨_, dk⟩, fk⟩ := hmn k hlt
            have HIN : Hid (IRow (wa.setCell ⟨gn, k, none⟩ (.int .i64 0)) gn 0 ((Lay.layF l).set k 0)) := irow_set 0 hin
            have HSA : Hid (LSt w g g' gx l v (wa.setCell ⟨gn, k, none⟩ (.int .i64 0))) := HSQ.out.on (hba.setCell (p := ⟨gn, k, none⟩) hBn _)
            have HC : Hid (Lay.rightB l ((Lay.layF l).set k 0) = false) := Lay.lay_cut hlt HWD.out
            clear hown hown2 hgrow hnil hvn hba hin hmn HSQ c1
            go_wp2_with fail
            have hlo := implLayoutOk g cl gn cn l ((Lay.layF l).set k 0) (by omega) (wa.setCell ⟨gn, k, none⟩ (.int .i64 0)) HSA.out.row HIN.out
            rw [List.length_set, HXL.out, ← HOK.out, HC.out] at hlo
            refine hlo.mono ?_
            clear hlo
            rintro e wb ⟨rfl, hbb⟩
            have HSB : Hid (LSt w g g' gx l v wb) := HSA.out.on hbb
            clear hbb HSA HIN
            go_wp2
            go_roundw
            case rel => exact ⟨k + 1, by omega, by go_num, HSB.out⟩
            case measure => simp [intOf]; omega
          · have hzb : (z == 1) = false := by simpa using hz1'
            go_wp2
            go_roundw
            case rel => exact ⟨k + 1, by omega, by go_num, HSQ.out⟩
            case measure => simp [intOf]; omega
      · go_wp2
        go_ret
        exact ⟨rfl, hst.out.below⟩
end St
end Go.Proofs.Ytnlanikjlokboaa
