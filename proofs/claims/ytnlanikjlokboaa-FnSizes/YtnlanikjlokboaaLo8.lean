/- Contracts of the two sides' places and of their tests whether a layout is right. -/
import Derived.Test.YtnlanikjlokboaaLo7
namespace Go.Proofs.Ytnlanikjlokboaa
namespace St
open Go.ChangeShapes Go.WideShapes Go.ChangeAt Go.RowKit

theorem right_no {l : List Tx.Ins} {v : List Int} {k : Nat} (hk : k < l.length) (hf : Lay.far l v k = true) : Lay.rightB l v = false := by
  have : ((List.range l.length).all fun k => !(Lay.far l v k)) = false := range_no hk (by simp [hf])
  unfold Lay.rightB
  rw [this]; simp
theorem right_yes {l : List Tx.Ins} {v : List Int} (hw : Lay.wideB l v = true) (h : ∀ j, j < l.length → Lay.far l v j = false) : Lay.rightB l v = true := by
  unfold Lay.rightB
  rw [hw, Bool.true_and, List.all_eq_true]
  intro j hj
  simp [h j (List.mem_range.1 hj)]
theorem right_wide {l : List Tx.Ins} {v : List Int} (hw : Lay.wideB l v = false) : Lay.rightB l v = false := by simp [Lay.rightB, hw]
def placesC (l : List Tx.Ins) (v : List Int) : List Int := if Lay.codeOk l && Lay.wideB l v then Lay.places l v else []

set_option maxRecDepth 100000 in
set_option maxHeartbeats 1000000 in
theorem implPlacesOf (g cap g' cap' : Nat) (l : List Tx.Ins) (v : List Int) (hl : l.length ≤ 1048576) (w : World) (hr : Row w g 0 l) (hi : IRow w g' 0 v) :
    Calls Try.prog 17 #[.slice (some ⟨g, 0, none⟩) l.length cap, .slice (some ⟨g', 0, none⟩) v.length cap'] w fun e w' => ∃ x, e = .returned x ∧ IGot w.heap.size w' x (placesC l v) ∧ Below w.heap.size w w' := by
  have HR : Hid (Row w g 0 l) := hr
  have HI : Hid (IRow w g' 0 v) := hi
  clear hr hi
  cases hok : Lay.codeOk l
  · have HN : Hid (placesC l v = []) := by
      show placesC l v = []
      simp [placesC, hok]
    go_enter Try.func17, Try.ntmps17
    go_wp2_with fail
    refine (implCodeOk g cap l hl _ HR.out).mono ?_
    rw [hok]
    rintro e w1 ⟨rfl, hb1⟩
    go_wp2
    go_ret
    exact ⟨_, rfl, by rw [HN.out]; exact igot_nil w1 _ hb1.size _, hb1.alloc hb1.size _⟩
  · cases hwd : Lay.wideB l v
    · have HN : Hid (placesC l v = []) := by
        show placesC l v = []
        simp [placesC, hwd]
      go_enter Try.func17, Try.ntmps17
      go_wp2_with fail
      refine (implCodeOk g cap l hl _ HR.out).mono ?_
      rw [hok]
      rintro e w1 ⟨rfl, hb1⟩
      go_wp2_with fail
      refine (isLayout g cap g' cap' l v hl _ (HR.out.on hb1) (HI.out.on hb1)).mono ?_
      rw [hwd]
      rintro e w2 ⟨rfl, hb2⟩
      have hw2 : Below w.heap.size w w2 := below_over hb1 hb2
      go_wp2
      go_ret
      exact ⟨_, rfl, by rw [HN.out]; exact igot_nil w2 _ hw2.size _, hw2.alloc hw2.size _⟩
    · have HN : Hid (placesC l v = Lay.places l v) := by
        show placesC l v = _
        simp [placesC, hok, hwd]
      have HWD : Hid (Lay.Wide l v) := (Lay.wide_iff l v).1 hwd
      have HPL : Hid ((Lay.places l v).length = l.length + 1) := Lay.places_len l v
      have h40 := (Lay.ok_len hok).2
      have hlen := HWD.out.1
      rw [hlen]
      go_enter Try.func17, Try.ntmps17
      clear hlen
      go_wp2_with fail
      refine (implCodeOk g cap l hl _ HR.out).mono ?_
      rw [hok]
      rintro e w1 ⟨rfl, hb1⟩
      go_wp2_with fail
      have CL := isLayout g cap g' cap' l v hl w1 (HR.out.on hb1) (HI.out.on hb1)
      rw [HWD.out.1] at CL
      refine CL.mono ?_
      rw [hwd]
      clear CL
      rintro e w2 ⟨rfl, hb2⟩
      have hw2 : Below w.heap.size w w2 := below_over hb1 hb2
      clear hb1 hb2
      go_wp2_with fail
      refine (placesBy g cap g' cap' l v h40 HWD.out.1 HWD.out.bit _ (HR.out.on hw2) (HI.out.on hw2)).mono ?_
      rintro e w3 ⟨rfl, hi3, hm3, hs3, hb3⟩
      have hw3 : Below w.heap.size w w3 := below_over hw2 hb3
      have HG : Hid (IGot w.heap.size w3 (.slice (some ⟨w2.heap.size, 0, none⟩) (Lay.places l v).length (Lay.places l v).length) (Lay.places l v)) := ⟨_, _, rfl, hw2.size, hs3, hi3, hm3⟩
      clear hi3 hm3 hs3 hb3 hw2
      go_wp2
      go_ret
      exact ⟨_, rfl, by rw [HN.out]; exact HG.out, hw3⟩
set_option maxRecDepth 100000 in
set_option maxHeartbeats 1000000 in
theorem specPlacesOf (g cap g' cap' : Nat) (l : List Tx.Ins) (v : List Int) (hl : l.length ≤ 1048576) (w : World) (hr : Row w g 0 l) (hi : IRow w g' 0 v) :
    Calls Try.prog 19 #[.slice (some ⟨g, 0, none⟩) l.length cap, .slice (some ⟨g', 0, none⟩) v.length cap'] w fun e w' => ∃ x, e = .returned x ∧ IGot w.heap.size w' x (placesC l v) ∧ Below w.heap.size w w' := by
  have HR : Hid (Row w g 0 l) := hr
  have HI : Hid (IRow w g' 0 v) := hi
  clear hr hi
  cases hq : (Lay.codeOk l && Lay.wideB l v)
  · have HN : Hid (placesC l v = []) := by
      show placesC l v = []
      simp only [placesC, hq]; rfl
    go_enter Try.func19, Try.ntmps19
    go_wp2_with fail
    refine (l3Wide g cap g' cap' l v hl _ HR.out HI.out).mono ?_
    rw [hq]
    rintro e w1 ⟨rfl, hb1⟩
    clear hq
    go_wp2
    go_ret
    exact ⟨_, rfl, by rw [HN.out]; exact igot_nil w1 _ hb1.size _, hb1.alloc hb1.size _⟩
  · have HN : Hid (placesC l v = Lay.places l v) := by
      show placesC l v = _
      simp only [placesC, hq]; rfl
    have hq2 : Lay.codeOk l = true ∧ Lay.wideB l v = true := by simpa using hq
    have HWD : Hid (Lay.Wide l v) := (Lay.wide_iff l v).1 hq2.2
    have h40 := (Lay.ok_len hq2.1).2
    have HQ : Hid ((Lay.codeOk l && Lay.wideB l v) = true) := hq
    have hlen := HWD.out.1
    have CL := l3Wide g cap g' cap' l v hl w HR.out HI.out
    rw [hlen, HQ.out] at CL
    rw [hlen]
    have HCL : Hid (Calls Try.prog 37 #[.slice (some ⟨g, 0, none⟩) l.length cap, .slice (some ⟨g', 0, none⟩) l.length cap'] w fun e w' => e = .returned (.bool true) ∧ Below w.heap.size w w') := CL
    clear hq hq2 hlen CL
    go_enter Try.func19, Try.ntmps19
    go_wp2_with fail
    refine HCL.out.mono ?_
    rintro e w1 ⟨rfl, hb1⟩
    clear HCL
    go_wp2_with fail
    refine (l3Places g cap g' cap' l v h40 HWD.out _ (HR.out.on hb1) (HI.out.on hb1)).mono ?_
    rintro e w2 ⟨x, rfl, hg2, hb2⟩
    have hw2 : Below w.heap.size w w2 := below_over hb1 hb2
    have HG : Hid (IGot w1.heap.size w2 x (Lay.places l v)) := hg2
    clear hg2 hb2
    go_wp2
    go_ret
    refine ⟨_, rfl, ?_, hw2⟩
    rw [HN.out]
    obtain ⟨g1, c1, e1, h1, h2⟩ := HG.out
    exact ⟨g1, c1, e1, Nat.le_trans hb1.size h1, h2⟩
end St
end Go.Proofs.Ytnlanikjlokboaa
