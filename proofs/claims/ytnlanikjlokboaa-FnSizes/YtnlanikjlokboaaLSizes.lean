/- The walk of the law FnSizes: over bytes of at most 4096 cells it returns true, and nothing old has turned. -/
import Derived.Test.YtnlanikjlokboaaDr7
import Derived.Test.YtnlanikjlokboaaLayM
import Derived.BigQuiet
namespace Go.Proofs.Ytnlanikjlokboaa
namespace St
open Go.ChangeShapes Go.WideShapes Go.ChangeAt Go.RowKit

set_option maxHeartbeats 800000 in
theorem risesYes (g cap : Nat) (l : List Int) (hl : l.length ≤ 1048576) (hup : ∀ k x y, l[k]? = some x → l[k + 1]? = some y → x < y) (w : World) (h1 : IRow w g 0 l) :
    Calls Try.prog 21 #[.slice (some ⟨g, 0, none⟩) l.length cap] w fun e w' => e = .returned (.bool true) ∧ Below w.heap.size w w' := by
  have H1 : Hid (IRow w g 0 l) := h1
  have HU : Hid (∀ k x y, l[k]? = some x → l[k + 1]? = some y → x < y) := hup
  clear h1 hup
  go_enter Try.func21, Try.ntmps21
  go_wp2
  go_loopw [3] (fun i wr => ∃ k : Nat, i = .int .i64 ((k : Int) + 1) ∧ k ≤ l.length ∧ Below w.heap.size w wr) (fun i _ => l.length + 1 - (intOf i).toNat)
  case atStart => exact ⟨0, rfl, Nat.zero_le _, Below.refl _ _⟩
  case round =>
    obtain ⟨k, rfl, hk, hb⟩ := hrel
    by_cases hlt : k + 1 < l.length
    · have a0 := H1.out.on hb (k + 1) _ (List.getElem?_eq_getElem hlt)
      have b0 := H1.out.on hb k _ (List.getElem?_eq_getElem (show k < l.length by omega))
      have hxy : l[k] < l[k + 1] := HU.out k _ _ (List.getElem?_eq_getElem (show k < l.length by omega)) (List.getElem?_eq_getElem hlt)
      generalize l[k + 1] = x at *
      generalize l[k] = y at *
      simp only [Nat.zero_add] at a0 b0
      have hki : (k : Int) + 1 < (l.length : Int) := by omega
      have hki0 : (0 : Int) ≤ (k : Int) + 1 := by omega
      have hwr : IntKind.i64.wrap (k : Int) = (k : Int) := by simp [IntKind.wrap, IntKind.signed, IntKind.bits]; omega
      have htn : ((k : Int) + 1).toNat = k + 1 := by omega
      have hkk : (k : Int) < (l.length : Int) := by omega
      have r0 := cell_regrown a0
      have s0 := cell_regrown b0
      have hnle : ¬ x ≤ y := by omega
      go_wp2_with fail
      refine wp_region_quiet_below (by kernel_rfl) (by kernel_rfl) ?_
      repeat (quiet_step (fail))
      refine wpQuiet_nil ?_
      intro _ hw'
      obtain ⟨⟨dq, osq⟩, hw''⟩ := hw'
      subst hw''
      have hw1 : Below w.heap.size w (Sort.grow (redrawn wr dq) osq) := below_over hb (below_regrown wr dq osq)
      clear a0 b0 r0 s0 hb
      generalize Sort.grow (redrawn wr dq) osq = w1 at *
      go_wp2
      go_roundw
      case rel => exact ⟨k + 1, by go_num, by omega, hw1⟩
      case measure => simp [intOf]; omega
    · go_wp2
      go_ret
      exact ⟨rfl, hb⟩
theorem places_rise {l : List Tx.Ins} {v : List Int} (hv : ∀ k, Lay.wd v k = 0 ∨ Lay.wd v k = 1) : ∀ k x y, (Lay.places l v)[k]? = some x → (Lay.places l v)[k + 1]? = some y → x < y := by
  intro k x y hx hy
  have hk : k + 1 < (Lay.places l v).length := (List.getElem?_eq_some_iff.1 hy).1
  rw [Lay.places_len] at hk
  rw [Lay.places_at (by omega)] at hx hy
  simp at hx hy
  subst hx hy
  exact Lay.pl_rise hv k

theorem sizes_big (w : World) (a0 : Option Addr) (len cap : Nat) (hl : ¬ len ≤ 4096) :
    Calls Try.prog 4 #[.slice a0 len cap] w fun e w' => e = .returned (.bool true) ∧ Below w.heap.size w w' := by
  have hnb : decide ((4096 : Int) < (len : Int)) = true := by simp; omega
  go_enter Try.func4, Try.ntmps4
  go_wp2_with (go_at_call 7; refine (Cu.big_at _ _ _ _).mono ?_; rintro e w1 ⟨rfl, rfl⟩)
  go_ret
  exact ⟨rfl, Below.refl _ _⟩

set_option maxRecDepth 100000 in
set_option maxHeartbeats 4000000 in
theorem sizes_small (w : World) (a0 : Option Addr) (len cap : Nat) (hB : Cu.Bytes w.heap.size w a0 len) :
    Calls Try.prog 4 #[.slice a0 len cap] w fun e w' => e = .returned (.bool true) ∧ Below w.heap.size w w' := by
  have hl := hB.1
  have hnb : decide ((4096 : Int) < (len : Int)) = false := by simp; omega
  have HB : Hid (Cu.Bytes w.heap.size w a0 len) := hB
  clear hB
  go_enter Try.func4, Try.ntmps4
  go_wp2_with fail
  refine (Cu.big_at _ _ _ _).mono ?_
  rintro e w1 ⟨rfl, rfl⟩
  go_wp2_with fail
  refine (Cu.drawPlaces_at w.heap.size _ _ _ _ HB.out (Nat.le_refl _)).mono ?_
  rintro e w1 ⟨g, cl, l, g', cv, v, rfl, h1, h2, hll, hvl, hb1⟩
  have HR1 : Hid (Row w1 g 0 l) := h1
  have HI1 : Hid (IRow w1 g' 0 v) := h2
  clear h1 h2 HB hnb hl
  go_wp2_with fail
  refine (implPlacesOf g cl g' cv l v (by omega) _ HR1.out HI1.out).mono ?_
  rintro e w2 ⟨x, rfl, ⟨gx, cx, rfl, _, _, hx2, _⟩, hb2⟩
  have HR2 : Hid (Row w2 g 0 l) := HR1.out.on hb2
  have HI2 : Hid (IRow w2 g' 0 v) := HI1.out.on hb2
  have HX2 : Hid (IRow w2 gx 0 (placesC l v)) := hx2
  have hw2 : Below w.heap.size w w2 := below_over hb1 hb2
  clear HR1 HI1 hb2 hb1 hx2
  obtain ⟨n, hn⟩ : ∃ n, n = sizeC l := ⟨_, rfl⟩
  have HN : Hid (n = sizeC l) := hn
  clear hn
  go_wp2_with fail
  refine (implSizeOf g cl l (by omega) _ HR2.out).mono ?_
  rw [← HN.out]
  rintro e w3 ⟨rfl, hb3⟩
  have HR3 : Hid (Row w3 g 0 l) := HR2.out.on hb3
  have HI3 : Hid (IRow w3 g' 0 v) := HI2.out.on hb3
  have HX3 : Hid (IRow w3 gx 0 (placesC l v)) := HX2.out.on hb3
  have hw3 : Below w.heap.size w w3 := below_over hw2 hb3
  clear HR2 HI2 HX2 hb3 hw2
  go_wp2_with fail
  refine (specPlacesOf g cl g' cv l v (by omega) _ HR3.out HI3.out).mono ?_
  rintro e w4 ⟨x, rfl, ⟨gy, cy, rfl, _, _, hy4, _⟩, hb4⟩
  have HR4 : Hid (Row w4 g 0 l) := HR3.out.on hb4
  have HI4 : Hid (IRow w4 g' 0 v) := HI3.out.on hb4
  have HX4 : Hid (IRow w4 gx 0 (placesC l v)) := HX3.out.on hb4
  have HY4 : Hid (IRow w4 gy 0 (placesC l v)) := hy4
  have hw4 : Below w.heap.size w w4 := below_over hw3 hb4
  clear HR3 HI3 HX3 hb4 hw3 hy4
  have hlc : (placesC l v).length ≤ 1048576 := by
    unfold placesC
    split
    · rw [Lay.places_len]; omega
    · simp
  go_wp2_with fail
  refine (likeSame gx gy cx cy (placesC l v) hlc _ HX4.out HY4.out).mono ?_
  rintro e w5 ⟨rfl, hb5⟩
  have HR5 : Hid (Row w5 g 0 l) := HR4.out.on hb5
  have HI5 : Hid (IRow w5 g' 0 v) := HI4.out.on hb5
  have HX5 : Hid (IRow w5 gx 0 (placesC l v)) := HX4.out.on hb5
  have hw5 : Below w.heap.size w w5 := below_over hw4 hb5
  clear HR4 HI4 HX4 HY4 hb5 hw4
  go_wp2_with fail
  refine (specSizeOf g cl l (by omega) _ HR5.out).mono ?_
  rw [← HN.out]
  rintro e w6 ⟨rfl, hb6⟩
  have HR6 : Hid (Row w6 g 0 l) := HR5.out.on hb6
  have HI6 : Hid (IRow w6 g' 0 v) := HI5.out.on hb6
  have HX6 : Hid (IRow w6 gx 0 (placesC l v)) := HX5.out.on hb6
  have hw6 : Below w.heap.size w w6 := below_over hw5 hb6
  clear HR5 HI5 HX5 hb6 hw5
  by_cases hc : (Lay.codeOk l && Lay.wideB l v) = true
  · have HE : placesC l v = Lay.places l v := by simp [placesC, hc]
    simp only [Bool.and_eq_true] at hc
    have HOK : Hid (Lay.codeOk l = true) := hc.1
    have HBIT : Hid (∀ k, Lay.wd v k = 0 ∨ Lay.wd v k = 1) := ((Lay.wide_iff l v).1 hc.2).bit
    have hlen := Lay.places_len l v
    rw [HE] at HX6 hlc ⊢
    have HUP : Hid (∀ k x y, (Lay.places l v)[k]? = some x → (Lay.places l v)[k + 1]? = some y → x < y) := places_rise HBIT.out
    have HLEN : Hid ((Lay.places l v).length = l.length + 1) := hlen
    have hrise := risesYes gx cx (Lay.places l v) hlc HUP.out
    rw [hlen] at hrise ⊢
    have HRISE : Hid (∀ u, IRow u gx 0 (Lay.places l v) → Calls Try.prog 21 #[.slice (some ⟨gx, 0, none⟩) (l.length + 1) cx] u fun e w' => e = .returned (.bool true) ∧ Below u.heap.size u w') := hrise
    clear HE hc hlen hrise HUP hlc
    go_wp2_with fail
    refine (HRISE.out _ HX6.out).mono ?_
    rintro e w7 ⟨rfl, hb7⟩
    have HR7 : Hid (Row w7 g 0 l) := HR6.out.on hb7
    have HI7 : Hid (IRow w7 g' 0 v) := HI6.out.on hb7
    have HX7 : Hid (IRow w7 gx 0 (Lay.places l v)) := HX6.out.on hb7
    have hw7 : Below w.heap.size w w7 := below_over hw6 hb7
    clear HR6 HI6 HX6 hb7 hw6 HRISE
    have p0 : w7.cell? ⟨gx, 0, none⟩ = some (.int .i64 0) := by
      have := HX7.out 0 _ (Lay.places_at (Nat.zero_le _))
      simpa [Lay.pl] using this
    go_wp2_with fail
    refine (implLayoutOf g cl l (by omega) _ HR7.out).mono ?_
    rintro e w8 ⟨x, rfl, ⟨gz, cz, rfl, _, _, hz8, _⟩, hb8⟩
    have HR8 : Hid (Row w8 g 0 l) := HR7.out.on hb8
    have HI8 : Hid (IRow w8 g' 0 v) := HI7.out.on hb8
    have HX8 : Hid (IRow w8 gx 0 (Lay.places l v)) := HX7.out.on hb8
    have HLC : layC l = Lay.layF l := by simp [layC, HOK.out]
    rw [HLC] at hz8 ⊢
    have HZ8 : Hid (IRow w8 gz 0 (Lay.layF l)) := hz8
    have hw8 : Below w.heap.size w w8 := below_over hw7 hb8
    clear HR7 HI7 HX7 hb8 hw7 hz8 HLC p0
    go_wp2_with fail
    refine (implPlacesOf g cl gz cz l (Lay.layF l) (by omega) _ HR8.out HZ8.out).mono ?_
    rintro e w9 ⟨x, rfl, ⟨gq, cq, rfl, _, _, hq9, _⟩, hb9⟩
    have HR9 : Hid (Row w9 g 0 l) := HR8.out.on hb9
    have HI9 : Hid (IRow w9 g' 0 v) := HI8.out.on hb9
    have HX9 : Hid (IRow w9 gx 0 (Lay.places l v)) := HX8.out.on hb9
    have HPC : placesC l (Lay.layF l) = Lay.places l (Lay.layF l) := by simp [placesC, HOK.out, lay_wide l]
    rw [HPC] at hq9 ⊢
    rw [Lay.places_len]
    have hw9 : Below w.heap.size w w9 := below_over hw8 hb9
    have hne : n = Lay.pl l (Lay.layF l) l.length := by
      rw [HN.out]
      simp [sizeC, HOK.out]
    have q0 : w9.cell? ⟨gq, l.length, none⟩ = some (.int .i64 n) := by
      have := hq9 l.length _ (Lay.places_at (Nat.le_refl _))
      rw [hne]
      simpa using this
    have HNE : Hid (n = Lay.pl l (Lay.layF l) l.length) := hne
    clear HR8 HI8 HX8 HZ8 hb9 hw8 hq9 HPC hne HN
    have hli : (l.length : Int) < (l.length : Int) + 1 := by omega
    go_wp2_with fail
    refine (implLayoutOk g cl g' cv l v (by omega) _ HR9.out HI9.out).mono ?_
    rintro e wa ⟨rfl, hba⟩
    have hwa : Below w.heap.size w wa := below_over hw9 hba
    have HXA : Hid (IRow wa gx 0 (Lay.places l v)) := HX9.out.on hba
    clear hba HX9 HR9 HI9 q0 hw9
    rw [HOK.out, Bool.true_and]
    cases hright : Lay.rightB l v
    · go_wp2
      go_ret
      exact ⟨rfl, hwa⟩
    · have x0 : wa.cell? ⟨gx, l.length, none⟩ = some (.int .i64 (Lay.pl l v l.length)) := by
        have := HXA.out l.length _ (Lay.places_at (Nat.le_refl _))
        simpa using this
      have hge : n ≤ Lay.pl l v l.length := by
        rw [HNE.out]
        exact Lay.pl_least hright
      generalize Lay.pl l v l.length = y at *
      go_wp2
      go_ret
      exact ⟨rfl, hwa⟩
  · have HE : (placesC l v).length = 0 := by
      unfold placesC
      rw [if_neg hc]; rfl
    rw [HE]
    clear hc hlc HE
    go_wp2
    go_ret
    exact ⟨rfl, hw6⟩
end St
end Go.Proofs.Ytnlanikjlokboaa
