/- Contracts of the two sides' sizes. -/
import Derived.Test.YtnlanikjlokboaaLoB
namespace Go.Proofs.Ytnlanikjlokboaa
namespace St
open Go.ChangeShapes Go.WideShapes Go.ChangeAt Go.RowKit

def sizeC (l : List Tx.Ins) : Int := if Lay.codeOk l then Lay.pl l (Lay.layF l) l.length else 0
theorem lay_wide (l : List Tx.Ins) : Lay.wideB l (Lay.layF l) = true := (Lay.wide_iff _ _).2 (Lay.least_lay l).1.1

set_option maxRecDepth 100000 in
set_option maxHeartbeats 1000000 in
theorem implSizeOf (g cap : Nat) (l : List Tx.Ins) (hl : l.length ≤ 1048576) (w : World) (hr : Row w g 0 l) :
    Calls Try.prog 18 #[.slice (some ⟨g, 0, none⟩) l.length cap] w fun e w' => e = .returned (.int .i64 (sizeC l)) ∧ Below w.heap.size w w' := by
  have HR : Hid (Row w g 0 l) := hr
  clear hr
  cases hok : Lay.codeOk l
  · have HN : Hid (layC l = []) := by
      show layC l = []
      simp [layC, hok]
    have HP : Hid (placesC l [] = []) := by
      show placesC l [] = []
      simp [placesC, hok]
    have HZ : Hid (sizeC l = 0) := by
      show sizeC l = 0
      simp [sizeC, hok]
    go_enter Try.func18, Try.ntmps18
    go_wp2_with fail
    refine (implLayoutOf g cap l hl _ HR.out).mono ?_
    rw [HN.out]
    rintro e w1 ⟨x, rfl, ⟨g1, c1, rfl, _, _, hi1, _⟩, hb1⟩
    have C := implPlacesOf g cap g1 c1 l [] hl w1 (HR.out.on hb1) hi1
    rw [HP.out] at C
    simp only [List.length_nil] at C ⊢
    have HC : Hid (Calls Try.prog 17 #[.slice (some ⟨g, 0, none⟩) l.length cap, .slice (some ⟨g1, 0, none⟩) 0 c1] w1 fun e w' => ∃ x, e = .returned x ∧ IGot w1.heap.size w' x [] ∧ Below w1.heap.size w1 w') := C
    clear C hi1
    go_wp2_with fail
    refine HC.out.mono ?_
    rintro e w2 ⟨x, rfl, ⟨g2, c2, rfl, _, _, _, _⟩, hb2⟩
    clear HC
    have hw2 : Below w.heap.size w w2 := below_over hb1 hb2
    go_wp2
    go_ret
    exact ⟨retI HZ.out.symm, hw2⟩
  · have HN : Hid (layC l = Lay.layF l) := by
      show layC l = _
      simp [layC, hok]
    have HP : Hid (placesC l (Lay.layF l) = Lay.places l (Lay.layF l)) := by
      show placesC l (Lay.layF l) = _
      simp [placesC, hok, lay_wide]
    have HZ : Hid (sizeC l = Lay.pl l (Lay.layF l) l.length) := by
      show sizeC l = _
      simp [sizeC, hok]
    have HLL : Hid ((Lay.layF l).length = l.length) := Lay.lay_len l
    have h40 := (Lay.ok_len hok).2
    go_enter Try.func18, Try.ntmps18
    go_wp2_with fail
    refine (implLayoutOf g cap l hl _ HR.out).mono ?_
    rw [HN.out]
    rintro e w1 ⟨x, rfl, ⟨g1, c1, rfl, _, _, hi1, _⟩, hb1⟩
    have C := implPlacesOf g cap g1 c1 l (Lay.layF l) hl w1 (HR.out.on hb1) hi1
    rw [HP.out, HLL.out] at C
    rw [HLL.out]
    have HC : Hid (Calls Try.prog 17 #[.slice (some ⟨g, 0, none⟩) l.length cap, .slice (some ⟨g1, 0, none⟩) l.length c1] w1 fun e w' => ∃ x, e = .returned x ∧ IGot w1.heap.size w' x (Lay.places l (Lay.layF l)) ∧ Below w1.heap.size w1 w') := C
    clear C hi1
    go_wp2_with fail
    refine HC.out.mono ?_
    rintro e w2 ⟨x, rfl, ⟨g2, c2, rfl, _, _, hi2, _⟩, hb2⟩
    rw [Lay.places_len]
    clear HC
    have hw2 : Below w.heap.size w w2 := below_over hb1 hb2
    have p0 := hi2 l.length _ (Lay.places_at (v := Lay.layF l) (Nat.le_refl _))
    simp only [Nat.zero_add] at p0
    have hn0 : ¬ (l.length : Int) + 1 = 0 := by omega
    have hn1 : (0 : Int) ≤ (l.length : Int) := by omega
    have hn2 : (l.length : Int) < (l.length : Int) + 1 := by omega
    clear hi2 hb2
    go_wp2
    go_ret
    exact ⟨retI HZ.out.symm, hw2⟩
set_option maxRecDepth 100000 in
set_option maxHeartbeats 1000000 in
theorem l3SizeOf (g cap : Nat) (l : List Tx.Ins) (hok : Lay.codeOk l = true) (w : World) (hr : Row w g 0 l) :
    Calls Try.prog 49 #[.slice (some ⟨g, 0, none⟩) l.length cap] w fun e w' => e = .returned (.int .i64 (Lay.pl l (Lay.layF l) l.length)) ∧ Below w.heap.size w w' := by
  have HR : Hid (Row w g 0 l) := hr
  have HOK : Hid (Lay.codeOk l = true) := hok
  have HLL : Hid ((Lay.layF l).length = l.length) := Lay.lay_len l
  have h40 := (Lay.ok_len hok).2
  clear hr hok
  go_enter Try.func49, Try.ntmps49
  go_wp2_with fail
  refine (l3Layout g cap l HOK.out _ HR.out).mono ?_
  rintro e w1 ⟨x, rfl, ⟨g1, c1, rfl, _, _, hi1, _⟩, hb1⟩
  rw [HLL.out]
  have HI1 : Hid (IRow w1 g1 0 (Lay.layF l)) := hi1
  clear hi1
  go_wp2_with fail
  refine (l3Places g cap g1 c1 l (Lay.layF l) h40 (Lay.least_lay l).1.1 _ (HR.out.on hb1) HI1.out).mono ?_
  rintro e w2 ⟨x, rfl, ⟨g2, c2, rfl, _, _, hi2, _⟩, hb2⟩
  rw [Lay.places_len]
  have hw2 : Below w.heap.size w w2 := below_over hb1 hb2
  have p0 := hi2 l.length _ (Lay.places_at (v := Lay.layF l) (Nat.le_refl _))
  simp only [Nat.zero_add] at p0
  have hn1 : (0 : Int) ≤ (l.length : Int) := by omega
  have hn2 : (l.length : Int) < (l.length : Int) + 1 := by omega
  clear hi2 hb2 hb1
  go_wp2
  go_ret
  exact ⟨rfl, hw2⟩
set_option maxRecDepth 100000 in
set_option maxHeartbeats 1000000 in
theorem specSizeOf (g cap : Nat) (l : List Tx.Ins) (hl : l.length ≤ 1048576) (w : World) (hr : Row w g 0 l) :
    Calls Try.prog 20 #[.slice (some ⟨g, 0, none⟩) l.length cap] w fun e w' => e = .returned (.int .i64 (sizeC l)) ∧ Below w.heap.size w w' := by
  have HR : Hid (Row w g 0 l) := hr
  clear hr
  cases hok : Lay.codeOk l
  · have HZ : Hid (sizeC l = 0) := by
      show sizeC l = 0
      simp [sizeC, hok]
    go_enter Try.func20, Try.ntmps20
    go_wp2_with fail
    refine (specCodeOk g cap l hl _ HR.out).mono ?_
    rw [hok]
    rintro e w1 ⟨rfl, hb1⟩
    go_wp2
    go_ret
    exact ⟨retI HZ.out.symm, hb1⟩
  · have HZ : Hid (sizeC l = Lay.pl l (Lay.layF l) l.length) := by
      show sizeC l = _
      simp [sizeC, hok]
    have HOK : Hid (Lay.codeOk l = true) := hok
    go_enter Try.func20, Try.ntmps20
    go_wp2_with fail
    refine (specCodeOk g cap l hl _ HR.out).mono ?_
    rw [hok]
    rintro e w1 ⟨rfl, hb1⟩
    go_wp2_with fail
    refine (l3SizeOf g cap l HOK.out _ (HR.out.on hb1)).mono ?_
    rintro e w2 ⟨rfl, hb2⟩
    have hw2 : Below w.heap.size w w2 := below_over hb1 hb2
    go_wp2
    go_ret
    exact ⟨retI HZ.out.symm, hw2⟩
end St
end Go.Proofs.Ytnlanikjlokboaa
