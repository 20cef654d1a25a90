/- The laws' own has and rises over rows of numbers. -/
import Derived.Test.YtffkkhaiedhaiaaJLay
import Derived.Lib.QuietBelow
import Derived.Test.YtffkkhaiedhaiaaJWp0
import Derived.Test.YtffkkhaiedhaiaaJDr6
namespace Go.Proofs.Ytffkkhaiedhaiaa
namespace St
open Go.ChangeShapes Go.WideShapes Go.ChangeAt Go.RowKit

set_option maxHeartbeats 800000 in
theorem risesYes (g cap : Nat) (l : List Int) (hl : l.length ≤ 1048576) (hup : ∀ k x y, l[k]? = some x → l[k + 1]? = some y → x < y) (w : World) (h1 : IRow w g 0 l) :
    Calls Try.prog 19 #[.slice (some ⟨g, 0, none⟩) l.length cap] w fun e w' => e = .returned (.bool true) ∧ Below w.heap.size w w' := by
  have H1 : Hid (IRow w g 0 l) := h1
  have HU : Hid (∀ k x y, l[k]? = some x → l[k + 1]? = some y → x < y) := hup
  clear h1 hup
  go_enter Try.func19, Try.ntmps19
  go_wp2
  go_loopw [3] (fun i wr => ∃ k : Nat, i = .int .i64 ((k : Int) + 1) ∧ k ≤ l.length ∧ Below w.heap.size w wr) (fun i _ => l.length + 1 - (intOf i).toNat)
  case atStart => exact ⟨0, rfl, Nat.zero_le _, Below.refl _ _⟩
  case round =>
    obtain ⟨k, rfl, hk, hb⟩ := hrel
    by_cases hlt : k + 1 < l.length
    · have a0 := H1.out.on hb (k + 1) _ (List.getElem?_eq_getElem hlt)
      have b0 := H1.out.on hb k _ (List.getElem?_eq_getElem (show k < l.length by omega))
      have hxy : l[k] < l[k + 1] := HU.out k _ _ (List.getElem?_eq_getElem (show k < l.length by omega)) (List.getElem?_eq_getElem hlt)
      generalize l[k + 1] = x at *
      generalize l[k] = y at *
      simp only [Nat.zero_add] at a0 b0
      have hki : (k : Int) + 1 < (l.length : Int) := by omega
      have hki0 : (0 : Int) ≤ (k : Int) + 1 := by omega
      have hwr : IntKind.i64.wrap (k : Int) = (k : Int) := by simp [IntKind.wrap, IntKind.signed, IntKind.bits]; omega
      have htn : ((k : Int) + 1).toNat = k + 1 := by omega
      have hkk : (k : Int) < (l.length : Int) := by omega
      have r0 := cell_regrown a0
      have s0 := cell_regrown b0
      have hnle : ¬ x ≤ y := by omega
      go_wp2_with fail
      refine wp_region_quiet_below (by kernel_rfl) (by kernel_rfl) ?_
      repeat (quiet_step (fail))
      refine wpQuiet_nil ?_
      intro _ hw'
      obtain ⟨⟨dq, osq⟩, hw''⟩ := hw'
      subst hw''
      have hw1 : Below w.heap.size w (Sort.grow (redrawn wr dq) osq) := below_over hb (below_regrown wr dq osq)
      clear a0 b0 r0 s0 hb
      generalize Sort.grow (redrawn wr dq) osq = w1 at *
      go_wp2
      go_roundw
      case rel => exact ⟨k + 1, by go_num, by omega, hw1⟩
      case measure => simp [intOf]; omega
    · go_wp2
      go_ret
      exact ⟨rfl, hb⟩

set_option maxHeartbeats 800000 in
theorem hasAt (g cap : Nat) (l : List Int) (n : Int) (hl : l.length ≤ 1048576) (w : World) (h1 : IRow w g 0 l) :
    Calls Try.prog 24 #[.slice (some ⟨g, 0, none⟩) l.length cap, .int .i64 n] w fun e w' => e = .returned (.bool (decide (n ∈ l))) ∧ Below w.heap.size w w' := by
  have H1 : Hid (IRow w g 0 l) := h1
  clear h1
  go_enter Try.func24, Try.ntmps24
  go_wp2
  go_loopw [5] (fun i wr => ∃ k : Nat, i = .int .i64 (k : Int) ∧ k ≤ l.length ∧ Hid (n ∉ l.take k) ∧ Below w.heap.size w wr) (fun i _ => l.length + 1 - (intOf i).toNat)
  case atStart => exact ⟨0, rfl, Nat.zero_le _, fun h => by simp at h, Below.refl _ _⟩
  case round =>
    obtain ⟨k, rfl, hk, hno, hb⟩ := hrel
    by_cases hlt : k < l.length
    · have a0 := H1.out.on hb k _ (List.getElem?_eq_getElem hlt)
      have HT : Hid (l.take (k + 1) = l.take k ++ [l[k]]) := by show _ = _; rw [List.take_add_one, List.getElem?_eq_getElem hlt]; rfl
      have HM : Hid (l[k] ∈ l) := List.getElem_mem hlt
      generalize l[k] = x at *
      simp only [Nat.zero_add] at a0
      have hki : (k : Int) < (l.length : Int) := by omega
      have hki0 : (0 : Int) ≤ (k : Int) := by omega
      by_cases hx : x = n
      · have HD : Hid (decide (n ∈ l) = true) := by show _ = _; rw [← hx]; exact decide_eq_true HM.out
        subst hx
        clear HM HT hno
        go_wp2
        go_ret
        exact ⟨by rw [HD.out]; rfl, hb⟩
      · have hxb : (x == n) = false := by simpa using hx
        have HN : Hid (n ∉ l.take (k + 1)) := by
          intro h
          rw [HT.out] at h
          rcases List.mem_append.1 h with h | h
          · exact hno.out h
          · simp at h; exact hx h.symm
        clear HM HT hno
        go_wp2
        go_roundw
        case rel => exact ⟨k + 1, by go_num, by omega, HN.out, hb⟩
        case measure => simp [intOf]; omega
    · have hk' : k = l.length := by omega
      have HD : Hid (decide (n ∈ l) = false) := by
        show _ = _
        have := hno.out
        rw [hk', List.take_length] at this
        exact decide_eq_false this
      have hki : ¬ (k : Int) < (l.length : Int) := by omega
      clear hno hk'
      go_wp2
      go_ret
      exact ⟨by rw [HD.out]; rfl, hb⟩
end St
end Go.Proofs.Ytffkkhaiedhaiaa

/- Contracts: the draws of the law of the ways, and the program of one code. -/
namespace Go.Proofs.Ytffkkhaiedhaiaa
namespace Pg
open Go.ChangeShapes Go.WideShapes Go.ChangeAt Go.RowKit St

set_option maxHeartbeats 400000 in
theorem fromW_at (B c : Nat) (w0 w : World) (a : Option Addr) (len cap : Nat) (lo hi : Int) (hl0 : -100 ≤ lo) (hl1 : lo ≤ 100) (hh0 : -100 ≤ hi) (hh1 : hi ≤ 100) (h : Cu.At B w0 w c a len cap) :
    Calls Try.prog 36 #[.pointer (some ⟨c, 0, none⟩), .int .i64 lo, .int .i64 hi] w fun e w' => ∃ r : Int, e = .returned (.int .i64 r) ∧ lo ≤ r ∧ r ≤ 300 ∧ Cu.At B w0 w' c a len cap := by
  have hw1 : IntKind.i64.wrap (hi - lo) = hi - lo := by simp [IntKind.wrap, IntKind.signed, IntKind.bits]; omega
  have hw2 : IntKind.i64.wrap (hi - lo + 1) = hi - lo + 1 := by simp [IntKind.wrap, IntKind.signed, IntKind.bits]; omega
  go_enter Try.func36, Try.ntmps36
  go_wp2_with fail
  refine (Cu.below_at B c w0 _ a len cap (hi - lo + 1) h).mono ?_
  rintro e w1 ⟨r, rfl, hr0, hr1, hr2, hr3, h1⟩
  have hr5 : r ≤ 300 := by
    by_cases h0 : 0 < hi - lo + 1
    · have := hr2 h0; omega
    · have := hr3 (by omega); omega
  have hr6 : lo + r ≤ 300 := by
    by_cases h0 : 0 < hi - lo + 1
    · have := hr2 h0; omega
    · have := hr3 (by omega); omega
  have hw3 : IntKind.i64.wrap (lo + r) = lo + r := by simp [IntKind.wrap, IntKind.signed, IntKind.bits]; omega
  clear hr2 hr3
  go_wp2
  go_ret
  exact ⟨lo + r, rfl, by omega, hr6, h1⟩
set_option maxHeartbeats 800000 in
theorem drawCodeW_at (B : Nat) (w : World) (a : Option Addr) (len cap : Nat) (hB : Cu.Bytes B w a len) (hs : B ≤ w.heap.size) :
    Calls Try.prog 41 #[.slice a len cap] w fun e w' => ∃ g cl l, e = .returned (.slice (some ⟨g, 0, none⟩) l.length cl) ∧ Row w' g 0 l ∧ Room w' g (l.length * 3) ∧ g < w'.heap.size ∧ l.length ≤ 41 ∧ Below w.heap.size w w' := by
  go_enter Try.func41, Try.ntmps41
  go_wp2_with fail
  refine (Cu.new_at B _ a len cap hB hs).mono ?_
  rintro e w1 ⟨c, rfl, hc, hb1, h1⟩
  have H1 : Hid (Cu.Cur B w1 c a len cap) := h1
  clear h1 hB
  go_wp2_with fail
  refine (Cu.drawAnyC_cur B c _ a len cap H1.out).mono ?_
  rintro e w2 ⟨x, l, rfl, ⟨g, cl, rfl, hg1, hg2, hr2, hm2⟩, hl, hf, h2⟩
  have H2 : Hid (Cu.At B w1 w2 c a len cap) := h2
  have HR2 : Hid (Row w2 g 0 l) := hr2
  have HM2 : Hid (Room w2 g (l.length * 3)) := hm2
  clear hr2 h2 hf hm2
  go_wp2
  go_ret
  exact ⟨g, cl, l, rfl, HR2.out, HM2.out, hg2, hl, H2.out.below hb1 hc⟩
set_option maxHeartbeats 800000 in
theorem drawReached_at (B : Nat) (w : World) (a : Option Addr) (len cap : Nat) (hB : Cu.Bytes B w a len) (hs : B ≤ w.heap.size) :
    Calls Try.prog 9 #[.slice a len cap] w fun e w' => ∃ g cl l, e = .returned (.slice (some ⟨g, 0, none⟩) l.length cl) ∧ Row w' g 0 l ∧ Room w' g (l.length * 3) ∧ g < w'.heap.size ∧ l.length ≤ 41 ∧ Below w.heap.size w w' := by
  have HB : Hid (Cu.Bytes B w a len) := hB
  clear hB
  go_enter Try.func9, Try.ntmps9
  go_wp2_with fail
  refine (drawCodeW_at B _ a len cap HB.out hs).mono ?_
  rintro e w1 ⟨g, cl, l, rfl, hr, hm, hg, hl, hb⟩
  have HR : Hid (Row w1 g 0 l) := hr
  have HM : Hid (Room w1 g (l.length * 3)) := hm
  clear hr hm
  go_wp2
  go_ret
  exact ⟨g, cl, l, rfl, HR.out, HM.out, hg, hl, hb⟩
set_option maxHeartbeats 800000 in
theorem drawNexts_at (B : Nat) (w : World) (a : Option Addr) (len cap : Nat) (hB : Cu.Bytes B w a len) (hs : B ≤ w.heap.size) :
    Calls Try.prog 7 #[.slice a len cap] w fun e w' => ∃ g cl l r, e = .returned (.tuple #[.slice (some ⟨g, 0, none⟩) l.length cl, .int .i64 r]) ∧ Row w' g 0 l ∧ l.length ≤ 41 ∧ Below w.heap.size w w' := by
  go_enter Try.func7, Try.ntmps7
  go_wp2_with fail
  refine (Cu.new_at B _ a len cap hB hs).mono ?_
  rintro e w1 ⟨c, rfl, hc, hb1, h1⟩
  have hcw1 : c < w1.heap.size := h1.2.1
  have H1 : Hid (Cu.Cur B w1 c a len cap) := h1
  clear h1 hB
  go_wp2_with fail
  refine (Cu.drawAnyC_cur B c _ a len cap H1.out).mono ?_
  rintro e w2 ⟨x, l, rfl, ⟨g, cl, rfl, hg1, hg2, hr2, _⟩, hl, _, h2⟩
  have H2 : Hid (Cu.At B w1 w2 c a len cap) := h2
  have HR2 : Hid (Row w2 g 0 l) := hr2
  clear hr2 h2
  go_wp2_with fail
  refine (fromW_at B c w2 w2 a len cap (-1) 30 (by omega) (by omega) (by omega) (by omega) (Cu.At.start H2.out.2)).mono ?_
  rintro e w3 ⟨r, rfl, hr0, hr1, h3⟩
  have H3 : Hid (Cu.At B w1 w3 c a len cap) := H2.out.step h3
  have HR3 : Hid (Row w3 g 0 l) := Cu.row_touch HR2.out h3.1 (by omega)
  clear h3 hr0 hr1
  go_wp2
  go_ret2
  exact ⟨g, cl, l, r, rfl, HR3.out, hl, H3.out.below hb1 hc⟩
set_option maxHeartbeats 800000 in
theorem drawStraight_at (B : Nat) (w : World) (a : Option Addr) (len cap : Nat) (hB : Cu.Bytes B w a len) (hs : B ≤ w.heap.size) :
    Calls Try.prog 12 #[.slice a len cap] w fun e w' => ∃ g cl l r s, e = .returned (.tuple #[.slice (some ⟨g, 0, none⟩) l.length cl, .int .i64 r, .int .i64 s]) ∧ (-1 ≤ r ∧ r ≤ 300 ∧ s ≤ 600) ∧ Row w' g 0 l ∧ l.length ≤ 41 ∧ Below w.heap.size w w' := by
  go_enter Try.func12, Try.ntmps12
  go_wp2_with fail
  refine (Cu.new_at B _ a len cap hB hs).mono ?_
  rintro e w1 ⟨c, rfl, hc, hb1, h1⟩
  have hcw1 : c < w1.heap.size := h1.2.1
  have H1 : Hid (Cu.Cur B w1 c a len cap) := h1
  clear h1 hB
  go_wp2_with fail
  refine (Cu.drawAnyC_cur B c _ a len cap H1.out).mono ?_
  rintro e w2 ⟨x, l, rfl, ⟨g, cl, rfl, hg1, hg2, hr2, _⟩, hl, _, h2⟩
  have H2 : Hid (Cu.At B w1 w2 c a len cap) := h2
  have HR2 : Hid (Row w2 g 0 l) := hr2
  clear hr2 h2
  go_wp2_with fail
  refine (fromW_at B c w2 w2 a len cap (-1) 20 (by omega) (by omega) (by omega) (by omega) (Cu.At.start H2.out.2)).mono ?_
  rintro e w3 ⟨r, rfl, hr0, hr1, h3⟩
  have H3 : Hid (Cu.At B w1 w3 c a len cap) := H2.out.step h3
  have HR3 : Hid (Row w3 g 0 l) := Cu.row_touch HR2.out h3.1 (by omega)
  have hz3 : w2.heap.size ≤ w3.heap.size := h3.1.size
  clear h3 HR2 H2
  go_wp2_with fail
  refine (fromW_at B c w3 w3 a len cap (-1) 6 (by omega) (by omega) (by omega) (by omega) (Cu.At.start H3.out.2)).mono ?_
  rintro e w4 ⟨s, rfl, hs0, hs1, h4⟩
  have H4 : Hid (Cu.At B w1 w4 c a len cap) := H3.out.step h4
  have HR4 : Hid (Row w4 g 0 l) := Cu.row_touch HR3.out h4.1 (by omega)
  clear h4 HR3 H3
  go_wp2
  refine bodyPost_ret (v := .tuple #[.slice (some ⟨g, 0, none⟩) l.length cl, .int .i64 r, .int .i64 (r + s)]) (by simp [results, Try.results12, go_sem]) rfl ?_
  exact ⟨g, cl, l, r, r + s, rfl, ⟨hr0, hr1, by omega⟩, HR4.out, hl, H4.out.below hb1 hc⟩
set_option maxRecDepth 100000 in
set_option maxHeartbeats 1000000 in
theorem withMain_at (g cl : Nat) (l : List Tx.Ins) (w : World) (hr : Row w g 0 l) (hm : Room w g (l.length * 3)) (hg : g < w.heap.size) :
    Calls Try.prog 21 #[.slice (some ⟨g, 0, none⟩) l.length cl] w fun e w' => ∃ b, e = .returned (.agg #[.slice (some ⟨b, 0, none⟩) 1 1]) ∧ SK front 0 w' (.slice (some ⟨b, 0, none⟩) (mainP l).length 1) (mainP l) ∧ Below w.heap.size w w' := by
  have HR : Hid (Row w g 0 l) := hr
  have HM : Hid (Room w g (l.length * 3)) := hm
  clear hr hm
  go_enter Try.func21, Try.ntmps21
  go_wp2
  obtain ⟨V, hV⟩ : ∃ V, V = (((w.alloc (.cells #[.slice (some ⟨w.heap.size + 1 + 1 + 1, 0, none⟩) 1 1] 39)).alloc (.cells #[.int .i64 (-1)] 2)).alloc (.cells #[.int .i64 0, .slice none 0 0, .int .i64 (-1), .slice (some ⟨g, 0, none⟩) l.length cl] 78)).alloc (.cells #[.int .i64 (-1), .slice (some ⟨w.heap.size + 1, 0, none⟩) 1 1, .slice (some ⟨w.heap.size + 1 + 1, 0, none⟩) 1 1] 81) := ⟨_, rfl⟩
  have hwV : Below w.heap.size w V := by rw [hV]; exact ((((Below.refl _ w).alloc (Nat.le_refl _) _).alloc (by simp) _).alloc (by simp; omega) _).alloc (by simp; omega) _
  have C0 : Cells V w.heap.size [.slice (some ⟨w.heap.size + 1 + 1 + 1, 0, none⟩) 1 1] := by rw [hV]; exact (((Cells.new w _ rfl _ _).alloc _).alloc _).alloc _
  have C1 : Cells V (w.heap.size + 1) [.int .i64 (-1)] := by rw [hV]; exact ((Cells.new (w.alloc _) _ (by simp) _ _).alloc _).alloc _
  have C2 : Cells V (w.heap.size + 1 + 1) [.int .i64 0, .slice none 0 0, .int .i64 (-1), .slice (some ⟨g, 0, none⟩) l.length cl] := by rw [hV]; exact (Cells.new ((w.alloc _).alloc _) _ (by simp) _ _).alloc _
  have C3 : Cells V (w.heap.size + 1 + 1 + 1) [.int .i64 (-1), .slice (some ⟨w.heap.size + 1, 0, none⟩) 1 1, .slice (some ⟨w.heap.size + 1 + 1, 0, none⟩) 1 1] := by rw [hV]; exact Cells.new (((w.alloc _).alloc _).alloc _) _ (by simp) _ _
  rw [← hV]
  clear hV
  obtain ⟨e0, _⟩ := C0.g0
  refine bodyPost_ret (v := .agg #[.slice (some ⟨w.heap.size + 1 + 1 + 1, 0, none⟩) 1 1]) (by simp [results, Try.results21, go_sem, e0]) rfl ?_
  refine ⟨w.heap.size + 1 + 1 + 1, rfl, ?_, hwV⟩
  have hI : SI true 0 V (.slice (some ⟨w.heap.size + 1, 0, none⟩) ([-1] : List Int).length 1) [-1] := SI.row (Nat.zero_le _) (cell_lt C1.g0.1) (fun j x hj => by
    match j, hj with
    | 0, hj => simp at hj; subst hj; exact C1.g0.1
    | j + 1, hj => simp at hj) (fun j hj => by
    match j, hj with
    | 0, _ => exact ⟨⟨_, C1.g0.1⟩, C1.g0.2⟩
    | j + 1, hj => simp at hj)
  have hC : CS 0 V (.slice (some ⟨g, 0, none⟩) l.length cl) l := ⟨g, cl, rfl, Nat.zero_le _, Nat.lt_of_lt_of_le hg hwV.size, HR.out.on hwV, HM.out.on hwV⟩
  have hM : SM front 0 V (.slice (some ⟨w.heap.size + 1 + 1, 0, none⟩) ([⟨0, [], -1, l⟩] : List Meth).length 1) [⟨0, [], -1, l⟩] := by
    refine ⟨_, 1, rfl, fun _ h => by simp at h, fun _ => ⟨w.heap.size + 1 + 1, 0, rfl, Nat.zero_le _, ⟨cell_lt C2.g0.1, fun _ j hj => ?_⟩, fun j x hj => ?_⟩⟩
    · match j, hj with
      | 0, _ => exact C2.g0.2
      | 1, _ => exact C2.g1.2
      | 2, _ => exact C2.g2.2
      | 3, _ => exact C2.g3.2
      | j + 4, hj => simp at hj; omega
    · match j, hj with
      | 0, hj =>
        simp at hj; subst hj
        exact ⟨_, _, C2.g0.1, C2.g1.1, C2.g2.1, C2.g3.1, SI.nil _ _ _, hC⟩
      | j + 1, hj => simp at hj
  refine ⟨_, 1, rfl, fun _ h => by simp at h, fun _ => ⟨w.heap.size + 1 + 1 + 1, 0, rfl, Nat.zero_le _, ⟨cell_lt C3.g0.1, fun _ j hj => ?_⟩, fun j x hj => ?_⟩⟩
  · match j, hj with
    | 0, _ => exact C3.g0.2
    | 1, _ => exact C3.g1.2
    | 2, _ => exact C3.g2.2
    | j + 3, hj => simp [mainP] at hj; omega
  · match j, hj with
    | 0, hj =>
      simp [mainP] at hj; subst hj
      exact ⟨_, _, C3.g0.1, C3.g1.1, C3.g2.1, hI, hM⟩
    | j + 1, hj => simp [mainP] at hj
end Pg
end Go.Proofs.Ytffkkhaiedhaiaa

/- Contracts of the laws' own comparing of programs, where both are the same. -/
namespace Go.Proofs.Ytffkkhaiedhaiaa
namespace Pg
open Go.ChangeShapes Go.WideShapes Go.ChangeAt Go.RowKit St

end Pg
end Go.Proofs.Ytffkkhaiedhaiaa
