/- The walk of the law FnCodes: over bytes of at most 4096 cells it returns true, and nothing old has turned. -/
import Derived.Test.YtnlanikjlokboaaGreatDoorDr6
import Derived.Test.YtnlanikjlokboaaGreatDoorBend1
import Derived.Test.YtnlanikjlokboaaGreatDoorCode1
import Derived.Test.YtnlanikjlokboaaGreatDoorRC2
namespace Go.Proofs.YtnlanikjlokboaaGreatDoor
namespace St
open Go.ChangeShapes Go.WideShapes Go.ChangeAt Go.RowKit

set_option maxHeartbeats 1000000 in
theorem likeCodes (g g' cap cap' : Nat) (l : List Tx.Ins) (hl : l.length ≤ 1048576) (w : World) (h1 : Row w g 0 l) (h2 : Row w g' 0 l) :
    Calls Tryz.prog 10 #[.slice (some ⟨g, 0, none⟩) l.length cap, .slice (some ⟨g', 0, none⟩) l.length cap'] w fun e w' => e = .returned (.bool true) ∧ Below w.heap.size w w' := by
  have H1 : Hid (Row w g 0 l) := h1
  have H2 : Hid (Row w g' 0 l) := h2
  clear h1 h2
  go_enter Tryz.func10, Tryz.ntmps10
  go_wp2
  go_loopw [5] (fun i wr => ∃ k : Nat, k ≤ l.length ∧ i = .int .i64 k ∧ Below w.heap.size w wr) (fun i _ => l.length - (intOf i).toNat)
  case atStart => exact ⟨0, Nat.zero_le _, rfl, Below.refl _ _⟩
  case round =>
    obtain ⟨k, hk, rfl, hb⟩ := hrel
    by_cases hlt : k < l.length
    · obtain ⟨a0, a1, a2⟩ := H1.out.on hb k _ (List.getElem?_eq_getElem hlt)
      obtain ⟨b0, b1, b2⟩ := H2.out.on hb k _ (List.getElem?_eq_getElem hlt)
      generalize l[k] = x at *
      obtain ⟨op, x, y⟩ := x
      simp only [Nat.zero_add] at a0 a1 a2 b0 b1 b2
      have hki : (k : Int) < (l.length : Int) := by omega
      have hki0 : (0 : Int) ≤ (k : Int) := by omega
      have r0 := cell_regrown a0
      have r1 := cell_regrown a1
      have r2 := cell_regrown a2
      have s0 := cell_regrown b0
      have s1 := cell_regrown b1
      have s2 := cell_regrown b2
      go_wp2_with fail
      refine wp_region_quiet_below (by kernel_rfl) (by kernel_rfl) ?_
      repeat (quiet_step (fail))
      refine wpQuiet_nil ?_
      intro _ hw'
      obtain ⟨⟨dq, osq⟩, hw''⟩ := hw'
      subst hw''
      have hw1 : Below w.heap.size w (Sort.grow (redrawn wr dq) osq) := below_over hb (below_regrown wr dq osq)
      clear a0 a1 a2 b0 b1 b2 r0 r1 r2 s0 s1 s2 hb
      generalize Sort.grow (redrawn wr dq) osq = w1 at *
      go_wp2
      go_roundw
      case rel => exact ⟨k + 1, by omega, by go_num, hw1⟩
      case measure => simp [intOf]; omega
    · go_wp2
      go_ret
      exact ⟨rfl, hb⟩

theorem shownC_len (l : List Tx.Ins) : (Tx.shownC l).length ≤ 520 := by
  unfold Tx.shownC
  split
  · rename_i h
    unfold Tx.okC at h
    simp only [Bool.and_eq_true, decide_eq_true_eq] at h
    have := showC_len l h.2
    omega
  · simp
theorem fits_bd {l : List Tx.Ins} (h : Cu.Fits l) : ∀ x ∈ l, (-9223372036854775808 ≤ x.2.1 ∧ x.2.1 ≤ 9223372036854775807) ∧ -9223372036854775808 ≤ x.2.2 ∧ x.2.2 ≤ 9223372036854775807 := (Cu.fits_iff l).1 h
theorem okC_bd {l : List Tx.Ins} (h : Tx.okC l = true) : ∀ x ∈ l, (-9223372036854775808 ≤ x.2.1 ∧ x.2.1 ≤ 9223372036854775807) ∧ -9223372036854775808 ≤ x.2.2 ∧ x.2.2 ≤ 9223372036854775807 := by
  intro x hx
  unfold Tx.okC at h
  simp only [Bool.and_eq_true] at h
  have hk := List.all_eq_true.1 h.2 x hx
  have := Tx.ok_a hk
  have := Tx.ok_b hk
  omega

set_option maxHeartbeats 800000 in
theorem drawShowC_at (B : Nat) (w : World) (a : Option Addr) (len cap : Nat) (hB : Cu.Bytes B w a len) (hs : B ≤ w.heap.size) :
    Calls Tryz.prog 5 #[.slice a len cap] w fun e w' => ∃ g cl l, e = .returned (.slice (some ⟨g, 0, none⟩) l.length cl) ∧ Row w' g 0 l ∧ l.length ≤ 41 ∧ Cu.Fits l ∧ Below w.heap.size w w' := by
  go_enter Tryz.func5, Tryz.ntmps5
  go_wp2_with fail
  refine (Cu.new_at B _ a len cap hB hs).mono ?_
  rintro e w1 ⟨c, rfl, hc, hb1, h1⟩
  have H1 : Hid (Cu.Cur B w1 c a len cap) := h1
  clear h1 hB
  go_wp2_with fail
  refine (Cu.drawAnyC_cur B c _ a len cap H1.out).mono ?_
  rintro e w2 ⟨x, l, rfl, ⟨g, cl, rfl, hg1, hg2, hr2, _⟩, hl, hf, h2⟩
  have H2 : Hid (Cu.At B w1 w2 c a len cap) := h2
  have HR2 : Hid (Row w2 g 0 l) := hr2
  have HF : Hid (Cu.Fits l) := hf
  clear hr2 h2 hf
  go_wp2
  go_ret
  exact ⟨g, cl, l, rfl, HR2.out, hl, HF.out, H2.out.below hb1 hc⟩

set_option maxHeartbeats 800000 in
theorem drawReadC_at (B : Nat) (w : World) (a : Option Addr) (len cap : Nat) (hB : Cu.Bytes B w a len) (hs : B ≤ w.heap.size) :
    Calls Tryz.prog 7 #[.slice a len cap] w fun e w' => ∃ t : ByteArray, e = .returned (.string t) ∧ t.size ≤ 1000 ∧ Below w.heap.size w w' := by
  go_enter Tryz.func7, Tryz.ntmps7
  go_wp2_with fail
  refine (Cu.new_at B _ a len cap hB hs).mono ?_
  rintro e w1 ⟨c, rfl, hc, hb1, h1⟩
  have H1 : Hid (Cu.Cur B w1 c a len cap) := h1
  clear h1 hB
  go_wp2_with fail
  refine (Cu.drawAnyC_cur B c _ a len cap H1.out).mono ?_
  rintro e w2 ⟨x, l, rfl, ⟨g, cl, rfl, hg1, hg2, hr2, _⟩, hl, hf, h2⟩
  have H2 : Hid (Cu.At B w1 w2 c a len cap) := h2
  have HR2 : Hid (Row w2 g 0 l) := hr2
  clear hr2 h2 hf
  go_wp2_with fail
  refine (specShowC g cl l (by omega) _ HR2.out).mono ?_
  have hsl := shownC_len l
  rintro e w3 ⟨rfl, hb3⟩
  have H3 : Hid (Cu.At B w1 w3 c a len cap) := ⟨H2.out.1.trans (Cu.touch_below hb3), H2.out.2.later hb3 H2.out.2.2.1⟩
  clear hb3
  generalize Tx.shownC l = sl at hsl
  go_wp2_with fail
  refine (Cu.once_at B c _ _ a len cap _ (Cu.At.start H3.out.2)).mono ?_
  rintro e w4 ⟨q, rfl, h4⟩
  have H4 : Hid (Cu.At B w1 w4 c a len cap) := H3.out.step h4
  clear h4
  cases q
  · go_wp2
    go_ret
    exact ⟨_, rfl, by rw [mk_size]; omega, H4.out.below hb1 hc⟩
  · go_wp2_with fail
    refine (Cu.bend_at B c _ _ a len cap (Cu.At.start H4.out.2) ⟨sl.toArray⟩ ⟨#[97, 98, 107, 113, 48, 45, 49, 44, 32]⟩ (by rw [mk_size]; omega) (by decide) (by decide)).mono ?_
    rintro e w5 ⟨t, rfl, ht, h5⟩
    have H5 : Hid (Cu.At B w1 w5 c a len cap) := H4.out.step h5
    clear h5
    go_wp2
    go_ret
    exact ⟨t, rfl, by have e := mk_size sl; omega, H5.out.below hb1 hc⟩

theorem codes_big (w : World) (a0 : Option Addr) (len cap : Nat) (hl : ¬ len ≤ 4096) :
    Calls Tryz.prog 3 #[.slice a0 len cap] w fun e w' => e = .returned (.bool true) ∧ Below w.heap.size w w' := by
  have hnb : decide ((4096 : Int) < (len : Int)) = true := by simp; omega
  go_enter Tryz.func3, Tryz.ntmps3
  go_wp2_with (go_at_call 4; refine (Cu.big_at _ _ _ _).mono ?_; rintro e w1 ⟨rfl, rfl⟩)
  go_ret
  exact ⟨rfl, Below.refl _ _⟩

/-- What is left of the law once the first two tests have been passed. -/
def okS (l : List Tx.Ins) (S : ByteArray) : Prop := S = ⟨(Tx.shownC l).toArray⟩
theorem okS_back {l : List Tx.Ins} {S : ByteArray} (h : okS l S) (he : S.toList.isEmpty = false) : Tx.okC l = true ∧ Tx.readC S.data.toList = some l ∧ S.size ≤ 520 ∧ Tx.showC l = S.data.toList := by
  unfold okS at h
  subst h
  have e : (⟨(Tx.shownC l).toArray⟩ : ByteArray).data.toList = Tx.shownC l := rfl
  rw [Lib.toList_data, e] at he
  rw [e]
  have hl := shownC_len l
  have hk : Tx.okC l = true := by
    cases hk : Tx.okC l
    · simp [Tx.shownC, hk] at he
    · rfl
  have es : Tx.shownC l = Tx.showC l := by simp [Tx.shownC, hk]
  refine ⟨hk, by rw [es]; exact Tx.readC_show l hk, by rw [mk_size]; exact hl, es.symm⟩

set_option maxRecDepth 100000 in
set_option maxHeartbeats 2000000 in
theorem codes_small (w : World) (a0 : Option Addr) (len cap : Nat) (hB : Cu.Bytes w.heap.size w a0 len) (hE : Env w.heap.size w) :
    Calls Tryz.prog 3 #[.slice a0 len cap] w fun e w' => e = .returned (.bool true) ∧ Below w.heap.size w w' := by
  have hl := hB.1
  have hnb : decide ((4096 : Int) < (len : Int)) = false := by simp; omega
  have HB : Hid (Cu.Bytes w.heap.size w a0 len) := hB
  have HE : Hid (Env w.heap.size w) := hE
  clear hB hE
  go_enter Tryz.func3, Tryz.ntmps3
  go_wp2_with fail
  refine (Cu.big_at _ _ _ _).mono ?_
  rintro e w1 ⟨rfl, rfl⟩
  go_wp2_with fail
  refine (drawShowC_at w.heap.size _ _ _ _ HB.out (Nat.le_refl _)).mono ?_
  rintro e w1 ⟨g, cl, l, rfl, hr1, hll, hf, hb1⟩
  have HR1 : Hid (Row w1 g 0 l) := hr1
  have HF : Hid (Cu.Fits l) := hf
  clear hr1 hf
  obtain ⟨S, hS⟩ : ∃ S : ByteArray, S = ⟨(Tx.shownC l).toArray⟩ := ⟨_, rfl⟩
  have HS : Hid (okS l S) := hS
  clear hS
  go_wp2_with fail
  refine (implShowC g cl l (by omega) w.heap.size _ hb1.size (HE.out.on hb1).tab HR1.out (fits_bd HF.out)).mono ?_
  rw [← show S = ⟨(Tx.shownC l).toArray⟩ from HS.out]
  rintro e w2 ⟨rfl, hb2⟩
  have hw2 : Below w.heap.size w w2 := below_over hb1 hb2
  have HR2 : Hid (Row w2 g 0 l) := HR1.out.on hb2
  clear hb2 hb1 HR1
  go_wp2_with fail
  refine (drawReadC_at w.heap.size _ _ _ _ (HB.out.below hw2) hw2.size).mono ?_
  rintro e w3 ⟨t, rfl, ht, hb3⟩
  have hw3 : Below w.heap.size w w3 := below_over hw2 hb3
  have HR3 : Hid (Row w3 g 0 l) := HR2.out.on hb3
  clear hb3 hw2 HR2
  obtain ⟨r, hr⟩ : ∃ r, r = Tx.readC t.data.toList := ⟨_, rfl⟩
  have HRD : Hid (r = Tx.readC t.data.toList) := hr
  clear hr
  have hrl : (insL r).length ≤ 40 := by
    cases r with
    | none => simp [insL]
    | some q =>
      have := (Tx.readC_sound HRD.out.symm).1
      unfold Tx.okC at this
      simp only [Bool.and_eq_true, decide_eq_true_eq] at this
      exact this.1
  obtain ⟨is, his⟩ : ∃ is, is = r.isSome := ⟨_, rfl⟩
  have HIS : Hid (is = r.isSome) := his
  clear his
  go_wp2_with fail
  refine (implReadC t (by omega) w.heap.size _ hw3.size (HE.out.on hw3)).mono ?_
  rw [← HRD.out, ← HIS.out]
  rintro e w4 ⟨x, rfl, ⟨gx, cx, rfl, _, _, hx4, _⟩, hb4⟩
  have hw4 : Below w.heap.size w w4 := below_over hw3 hb4
  have HR4 : Hid (Row w4 g 0 l) := HR3.out.on hb4
  have HX4 : Hid (Row w4 gx 0 (insL r)) := hx4
  clear hb4 hw3 HR3 hx4
  go_wp2_with fail
  refine (specReadC t w4 (by omega)).mono ?_
  rw [← HRD.out, ← HIS.out]
  rintro e w5 ⟨x, rfl, ⟨gy, cy, rfl, _, _, hy5, _⟩, hb5⟩
  have hw5 : Below w.heap.size w w5 := below_over hw4 hb5
  have HR5 : Hid (Row w5 g 0 l) := HR4.out.on hb5
  have HX5 : Hid (Row w5 gx 0 (insL r)) := HX4.out.on hb5
  have HY5 : Hid (Row w5 gy 0 (insL r)) := hy5
  clear hb5 hw4 HR4 HX4 hy5
  have hnn : (is != is) = false := by cases is <;> rfl
  go_wp2_with fail
  refine (likeCodes gx gy cx cy (insL r) (by omega) _ HX5.out HY5.out).mono ?_
  rintro e w6 ⟨rfl, hb6⟩
  have hw6 : Below w.heap.size w w6 := below_over hw5 hb6
  have HR6 : Hid (Row w6 g 0 l) := HR5.out.on hb6
  have HX6 : Hid (Row w6 gx 0 (insL r)) := HX5.out.on hb6
  clear hb6 hw5 HR5 HX5 HY5
  go_wp2_with fail
  refine (specShowC g cl l (by omega) _ HR6.out).mono ?_
  rw [← show S = ⟨(Tx.shownC l).toArray⟩ from HS.out]
  rintro e w7 ⟨rfl, hb7⟩
  have hw7 : Below w.heap.size w w7 := below_over hw6 hb7
  have HR7 : Hid (Row w7 g 0 l) := HR6.out.on hb7
  have HX7 : Hid (Row w7 gx 0 (insL r)) := HX6.out.on hb7
  clear hb7 hw6 HR6 HX6
  cases is
  · have HE0 : Hid ((insL r).length = 0) := by
      show _ = _
      cases r with
      | none => rfl
      | some q => have := HIS.out; simp at this
    rw [HE0.out]
    have hwU := hw7
    have HRU := HR7
    clear hw7 HR7 HX7 hnn HE0 hrl
    cases he : S.toList.isEmpty
    · have hbk := okS_back HS.out he
      have HOKC : Hid (Tx.okC l = true) := hbk.1
      have HRB : Hid (Tx.readC S.data.toList = some l) := hbk.2.1
      have hsz := hbk.2.2.1
      have HSH : Hid (Tx.showC l = S.data.toList) := hbk.2.2.2
      have HALL : Hid (l.all Tx.okT = true) := by
        show _ = _
        have := hbk.1
        unfold Tx.okC at this
        simp only [Bool.and_eq_true] at this
        exact this.2
      clear hbk
      go_wp2_with fail
      refine (implReadC S (by omega) w.heap.size _ hwU.size (HE.out.on hwU)).mono ?_
      rw [HRB.out]
      simp only [insL, Option.isSome]
      rintro e w8 ⟨y, rfl, ⟨gz, cz, rfl, _, _, hz8, _⟩, hb8⟩
      have hw8 : Below w.heap.size w w8 := below_over hwU hb8
      have HR8 : Hid (Row w8 g 0 l) := HRU.out.on hb8
      have HZ8 : Hid (Row w8 gz 0 l) := hz8
      clear hb8 hwU HRU hz8
      go_wp2
      go_loopw [12, 13] (fun v i wr => ∃ (k : Nat) (s : ByteArray), k ≤ l.length ∧ i = .int .i64 k ∧ .string s = v ∧ Hid (s.data.toList = Tx.showC (l.take k)) ∧ Below w8.heap.size w8 wr) (fun _ i _ => l.length - (intOf i).toNat)
      case atStart => exact ⟨0, ⟨#[]⟩, Nat.zero_le _, rfl, rfl, rfl, Below.refl _ _⟩
      case round =>
        obtain ⟨k, s, hk, rfl, rfl, hs, hb⟩ := hrel
        have hsz2 : s.size ≤ 520 := by
          have h1 := showC_len (l.take k) (by
            rw [List.all_eq_true]
            intro x hx
            exact List.all_eq_true.1 HALL.out x (List.mem_of_mem_take hx))
          rw [← hs.out, List.length_take] at h1
          have e : s.data.toList.length = s.size := by simp
          have h40 : l.length ≤ 40 := by
            have := HOKC.out
            unfold Tx.okC at this
            simp only [Bool.and_eq_true, decide_eq_true_eq] at this
            exact this.1
          omega
        by_cases hlt : k < l.length
        · obtain ⟨h0, h1, h2⟩ := HR8.out.on hb k _ (List.getElem?_eq_getElem hlt)
          have hx := List.all_eq_true.1 HALL.out _ (List.getElem_mem hlt)
          have HS1 : Hid (0 < k → Tx.showC (l.take (k + 1)) = Tx.showC (l.take k) ++ 32 :: Tx.showT l[k]) := showC_snoc hlt
          have HS0 : Hid (k = 0 → Tx.showC (l.take (k + 1)) = Tx.showT l[k]) := by
            show k = 0 → _
            intro e; subst e; exact showC_one hlt
          generalize l[k] = x at *
          obtain ⟨op, a, b⟩ := x
          have HX : Hid (Tx.shownI op a b = Tx.showT (op, a, b)) := by
            show _ = _
            unfold Tx.shownI
            rw [if_pos (show Tx.okI op a b = true from hx)]; rfl
          have hal := Tx.show_len hx
          have hab := Tx.ok_a hx
          have hbb := Tx.ok_b hx
          have hal2 : (Tx.showT (op, a, b)).length ≤ 12 := hal
          clear hx hal
          simp only [Nat.zero_add] at h0 h1 h2
          by_cases hk0 : k = 0
          · subst hk0
            simp only [Nat.zero_mul, Nat.zero_add] at h0 h1 h2
            go_wp2_with fail
            refine (implShow op a b (by omega) (by omega) (by omega) (by omega) w.heap.size _ (Nat.le_trans hw8.size hb.size) (HE.out.on (below_over hw8 hb)).tab).mono ?_
            rw [HX.out]
            rintro e w9 ⟨rfl, hb9⟩
            have hw9 : Below w8.heap.size w8 w9 := below_over hb hb9
            clear hb9 h0 h1 h2
            generalize Tx.showT (op, a, b) = sx at *
            have hsx : (⟨sx.toArray⟩ : ByteArray).size ≤ 12 := by rw [mk_size]; exact hal2
            go_wp2
            go_roundw
            case rel =>
              refine ⟨1, _, by omega, by go_num, rfl, ?_, hw9⟩
              show _ = _
              rw [HS0.out trivial]
              have e := hs.out
              rw [List.take_zero] at e
              simp [e, Tx.showC, Lib.join]
            case measure => simp [intOf]; omega
          · have hk1 : (0 : Int) < (k : Int) := by omega
            go_wp2_with fail
            refine (implShow op a b (by omega) (by omega) (by omega) (by omega) w.heap.size _ (Nat.le_trans hw8.size hb.size) (HE.out.on (below_over hw8 hb)).tab).mono ?_
            rw [HX.out]
            rintro e w9 ⟨rfl, hb9⟩
            have hw9 : Below w8.heap.size w8 w9 := below_over hb hb9
            clear hb9 h0 h1 h2
            generalize Tx.showT (op, a, b) = sx at *
            have hsx : (⟨sx.toArray⟩ : ByteArray).size ≤ 12 := by rw [mk_size]; exact hal2
            go_wp2
            go_roundw
            case rel =>
              refine ⟨k + 1, _, by omega, by go_num, rfl, ?_, hw9⟩
              show _ = _
              rw [HS1.out (by omega), ← hs.out]
              simp
            case measure => simp [intOf]; omega
        · have hsS : s = S := by
            apply str_eq
            rw [hs.out, List.take_of_length_le (by omega)]
            exact HSH.out
          subst hsS
          go_wp2_with fail
          refine (likeCodes gz g cz cl l (by omega) _ (HZ8.out.on hb) (HR8.out.on hb)).mono ?_
          rintro e w9 ⟨rfl, hb9⟩
          have hw9 : Below w.heap.size w w9 := below_over (below_over hw8 hb) hb9
          clear hb9
          go_wp2
          go_ret
          exact ⟨rfl, hw9⟩
    · go_wp2
      go_ret
      exact ⟨rfl, hwU⟩
  · obtain ⟨q, hq⟩ : ∃ q, r = some q := by
      cases r with
      | none => have := HIS.out; simp at this
      | some q => exact ⟨q, rfl⟩
    subst hq
    have hsd := Tx.readC_sound HRD.out.symm
    have HOK : Hid (Tx.okC q = true) := hsd.1
    have HT : Hid ((⟨(Tx.shownC q).toArray⟩ : ByteArray) = t) := by
      show _ = _
      apply str_eq
      show Tx.shownC q = _
      rw [Tx.shownC, if_pos hsd.1]; exact hsd.2
    clear hsd
    simp only [insL] at hrl HX7 ⊢
    go_wp2_with fail
    refine (implShowC gx cx q (by omega) w.heap.size _ hw7.size (HE.out.on hw7).tab HX7.out (okC_bd HOK.out)).mono ?_
    rw [HT.out]
    rintro e wU ⟨rfl, hbU⟩
    have hwU : Below w.heap.size w wU := below_over hw7 hbU
    have HRU : Hid (Row wU g 0 l) := HR7.out.on hbU
    clear hbU hw7 HR7 HX7 hnn HOK HT hrl
    cases he : S.toList.isEmpty
    · have hbk := okS_back HS.out he
      have HOKC : Hid (Tx.okC l = true) := hbk.1
      have HRB : Hid (Tx.readC S.data.toList = some l) := hbk.2.1
      have hsz := hbk.2.2.1
      have HSH : Hid (Tx.showC l = S.data.toList) := hbk.2.2.2
      have HALL : Hid (l.all Tx.okT = true) := by
        show _ = _
        have := hbk.1
        unfold Tx.okC at this
        simp only [Bool.and_eq_true] at this
        exact this.2
      clear hbk
      go_wp2_with fail
      refine (implReadC S (by omega) w.heap.size _ hwU.size (HE.out.on hwU)).mono ?_
      rw [HRB.out]
      simp only [insL, Option.isSome]
      rintro e w8 ⟨y, rfl, ⟨gz, cz, rfl, _, _, hz8, _⟩, hb8⟩
      have hw8 : Below w.heap.size w w8 := below_over hwU hb8
      have HR8 : Hid (Row w8 g 0 l) := HRU.out.on hb8
      have HZ8 : Hid (Row w8 gz 0 l) := hz8
      clear hb8 hwU HRU hz8
      go_wp2
      go_loopw [12, 13] (fun v i wr => ∃ (k : Nat) (s : ByteArray), k ≤ l.length ∧ i = .int .i64 k ∧ .string s = v ∧ Hid (s.data.toList = Tx.showC (l.take k)) ∧ Below w8.heap.size w8 wr) (fun _ i _ => l.length - (intOf i).toNat)
      case atStart => exact ⟨0, ⟨#[]⟩, Nat.zero_le _, rfl, rfl, rfl, Below.refl _ _⟩
      case round =>
        obtain ⟨k, s, hk, rfl, rfl, hs, hb⟩ := hrel
        have hsz2 : s.size ≤ 520 := by
          have h1 := showC_len (l.take k) (by
            rw [List.all_eq_true]
            intro x hx
            exact List.all_eq_true.1 HALL.out x (List.mem_of_mem_take hx))
          rw [← hs.out, List.length_take] at h1
          have e : s.data.toList.length = s.size := by simp
          have h40 : l.length ≤ 40 := by
            have := HOKC.out
            unfold Tx.okC at this
            simp only [Bool.and_eq_true, decide_eq_true_eq] at this
            exact this.1
          omega
        by_cases hlt : k < l.length
        · obtain ⟨h0, h1, h2⟩ := HR8.out.on hb k _ (List.getElem?_eq_getElem hlt)
          have hx := List.all_eq_true.1 HALL.out _ (List.getElem_mem hlt)
          have HS1 : Hid (0 < k → Tx.showC (l.take (k + 1)) = Tx.showC (l.take k) ++ 32 :: Tx.showT l[k]) := showC_snoc hlt
          have HS0 : Hid (k = 0 → Tx.showC (l.take (k + 1)) = Tx.showT l[k]) := by
            show k = 0 → _
            intro e; subst e; exact showC_one hlt
          generalize l[k] = x at *
          obtain ⟨op, a, b⟩ := x
          have HX : Hid (Tx.shownI op a b = Tx.showT (op, a, b)) := by
            show _ = _
            unfold Tx.shownI
            rw [if_pos (show Tx.okI op a b = true from hx)]; rfl
          have hal := Tx.show_len hx
          have hab := Tx.ok_a hx
          have hbb := Tx.ok_b hx
          have hal2 : (Tx.showT (op, a, b)).length ≤ 12 := hal
          clear hx hal
          simp only [Nat.zero_add] at h0 h1 h2
          by_cases hk0 : k = 0
          · subst hk0
            simp only [Nat.zero_mul, Nat.zero_add] at h0 h1 h2
            go_wp2_with fail
            refine (implShow op a b (by omega) (by omega) (by omega) (by omega) w.heap.size _ (Nat.le_trans hw8.size hb.size) (HE.out.on (below_over hw8 hb)).tab).mono ?_
            rw [HX.out]
            rintro e w9 ⟨rfl, hb9⟩
            have hw9 : Below w8.heap.size w8 w9 := below_over hb hb9
            clear hb9 h0 h1 h2
            generalize Tx.showT (op, a, b) = sx at *
            have hsx : (⟨sx.toArray⟩ : ByteArray).size ≤ 12 := by rw [mk_size]; exact hal2
            go_wp2
            go_roundw
            case rel =>
              refine ⟨1, _, by omega, by go_num, rfl, ?_, hw9⟩
              show _ = _
              rw [HS0.out trivial]
              have e := hs.out
              rw [List.take_zero] at e
              simp [e, Tx.showC, Lib.join]
            case measure => simp [intOf]; omega
          · have hk1 : (0 : Int) < (k : Int) := by omega
            go_wp2_with fail
            refine (implShow op a b (by omega) (by omega) (by omega) (by omega) w.heap.size _ (Nat.le_trans hw8.size hb.size) (HE.out.on (below_over hw8 hb)).tab).mono ?_
            rw [HX.out]
            rintro e w9 ⟨rfl, hb9⟩
            have hw9 : Below w8.heap.size w8 w9 := below_over hb hb9
            clear hb9 h0 h1 h2
            generalize Tx.showT (op, a, b) = sx at *
            have hsx : (⟨sx.toArray⟩ : ByteArray).size ≤ 12 := by rw [mk_size]; exact hal2
            go_wp2
            go_roundw
            case rel =>
              refine ⟨k + 1, _, by omega, by go_num, rfl, ?_, hw9⟩
              show _ = _
              rw [HS1.out (by omega), ← hs.out]
              simp
            case measure => simp [intOf]; omega
        · have hsS : s = S := by
            apply str_eq
            rw [hs.out, List.take_of_length_le (by omega)]
            exact HSH.out
          subst hsS
          go_wp2_with fail
          refine (likeCodes gz g cz cl l (by omega) _ (HZ8.out.on hb) (HR8.out.on hb)).mono ?_
          rintro e w9 ⟨rfl, hb9⟩
          have hw9 : Below w.heap.size w w9 := below_over (below_over hw8 hb) hb9
          clear hb9
          go_wp2
          go_ret
          exact ⟨rfl, hw9⟩
    · go_wp2
      go_ret
      exact ⟨rfl, hwU⟩
end St
end Go.Proofs.YtnlanikjlokboaaGreatDoor
