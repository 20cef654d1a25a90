/- Contracts of both sides' Under, Lowest and Selected. -/
import Derived.Test.YthjjfjakldbimabHi4
import Derived.Test.YthjjfjakldbimabHs0
namespace Go.Proofs.Ythjjfjakldbimab
namespace Pg
open Go.ChangeShapes Go.WideShapes Go.ChangeAt Go.RowKit St

def undA (p : Prg) (a b : Int) : Bool := okP p && inB p a && undB p a b
def lowA (p : Prg) (a b : Int) : Int := if okP p && inB p a && inB p b then lowF p a b else -1
def selA (p : Prg) (c n : Int) : Int := if okP p && inB p c then selF p c n else -1

set_option maxHeartbeats 1000000 in
theorem implUnder (B : Nat) (p : Prg) (a : Option Addr) (cap : Nat) (t s : Int) (hsp : SmallP p) (w : World) (hp : SK front B w (.slice a p.length cap) p) :
    Calls Try.prog 19 #[.agg #[.slice a p.length cap], .int .i64 t, .int .i64 s] w fun e w' => e = .returned (.bool (undA p t s)) ∧ Below w.heap.size w w' := by
  have HSP : Hid (SmallP p) := hsp
  have HP : Hid (SK front B w (.slice a p.length cap) p) := hp
  clear hp hsp
  obtain ⟨W, hW⟩ : ∃ W, W = w.alloc (.cells #[.slice a p.length cap] 30) := ⟨_, rfl⟩
  have hwW : Below w.heap.size w W := by rw [hW]; exact (Below.refl _ _).alloc (Nat.le_refl _) _
  have P0 : Hid (Cells W w.heap.size [.slice a p.length cap]) := by rw [hW]; exact Cells.new w _ rfl _ _
  go_enter Try.func19, Try.ntmps19
  go_wp2_with fail
  rw [← hW]
  clear hW
  refine (isRightClass B p a cap t HSP.out _ (SK.on HP.out (Keep.of hwW))).mono ?_
  rintro e w1 ⟨rfl, hb1⟩
  have hw1 : Below w.heap.size w w1 := below_over hwW hb1
  have P1 : Hid (Cells w1 w.heap.size [.slice a p.length cap]) := P0.out.on hb1
  obtain ⟨q0, _⟩ := P1.out.g0
  clear hb1 P0
  cases hok : (okP p && inB p t)
  · have HN : Hid (undA p t s = false) := by show _ = _; unfold undA; rw [hok]; rfl
    go_wp2
    go_ret
    exact ⟨retB HN.out.symm, hw1⟩
  · have HN : Hid (undA p t s = undB p t s) := by show _ = _; unfold undA; rw [hok]; rfl
    obtain ⟨hk, h0, h1⟩ := okIn hok
    have h6 := (okP_len hk).2
    have HSU : Hid (SupOk p p.length) := okP_sup hk
    clear hk hok
    go_wp2_with fail
    refine (isUnder B p a cap t s (by omega) h1 h6 HSU.out _ (SK.on HP.out (Keep.of hw1))).mono ?_
    rintro e w2 ⟨rfl, hb2⟩
    have hw2 : Below w.heap.size w w2 := below_over hw1 hb2
    clear hb2 q0
    generalize undB p t s = q at *
    go_wp2
    go_ret
    exact ⟨retB HN.out.symm, hw2⟩
set_option maxHeartbeats 1000000 in
theorem specUnder (B : Nat) (p : Prg) (a : Option Addr) (cap : Nat) (t s : Int) (hsp : SmallP p) (w : World) (hp : SK front B w (.slice a p.length cap) p) :
    Calls Try.prog 18 #[.agg #[.slice a p.length cap], .int .i64 t, .int .i64 s] w fun e w' => e = .returned (.bool (undA p t s)) ∧ Below w.heap.size w w' := by
  have HSP : Hid (SmallP p) := hsp
  have HP : Hid (SK front B w (.slice a p.length cap) p) := hp
  clear hp hsp
  obtain ⟨W, hW⟩ : ∃ W, W = w.alloc (.cells #[.slice a p.length cap] 30) := ⟨_, rfl⟩
  have hwW : Below w.heap.size w W := by rw [hW]; exact (Below.refl _ _).alloc (Nat.le_refl _) _
  have P0 : Hid (Cells W w.heap.size [.slice a p.length cap]) := by rw [hW]; exact Cells.new w _ rfl _ _
  go_enter Try.func18, Try.ntmps18
  go_wp2_with fail
  rw [← hW]
  clear hW
  refine (l4In B p a cap t HSP.out _ (SK.on HP.out (Keep.of hwW))).mono ?_
  rintro e w1 ⟨rfl, hb1⟩
  have hw1 : Below w.heap.size w w1 := below_over hwW hb1
  have P1 : Hid (Cells w1 w.heap.size [.slice a p.length cap]) := P0.out.on hb1
  obtain ⟨q0, _⟩ := P1.out.g0
  clear hb1 P0
  cases hok : (okP p && inB p t)
  · have HN : Hid (undA p t s = false) := by show _ = _; unfold undA; rw [hok]; rfl
    go_wp2
    go_ret
    exact ⟨retB HN.out.symm, hw1⟩
  · have HN : Hid (undA p t s = undB p t s) := by show _ = _; unfold undA; rw [hok]; rfl
    obtain ⟨hk, h0, h1⟩ := okIn hok
    have h6 := (okP_len hk).2
    have HSU : Hid (SupOk p p.length) := okP_sup hk
    clear hk hok
    go_wp2_with fail
    refine (l5Under B p a cap t s (by omega) h1 h6 HSU.out _ (SK.on HP.out (Keep.of hw1))).mono ?_
    rintro e w2 ⟨rfl, hb2⟩
    have hw2 : Below w.heap.size w w2 := below_over hw1 hb2
    clear hb2 q0
    generalize undB p t s = q at *
    go_wp2
    go_ret
    exact ⟨retB HN.out.symm, hw2⟩
set_option maxHeartbeats 1000000 in
theorem implSelected (B : Nat) (p : Prg) (a : Option Addr) (cap : Nat) (t s : Int) (hsp : SmallP p) (w : World) (hp : SK front B w (.slice a p.length cap) p) :
    Calls Try.prog 23 #[.agg #[.slice a p.length cap], .int .i64 t, .int .i64 s] w fun e w' => e = .returned (.int .i64 (selA p t s)) ∧ Below w.heap.size w w' := by
  have HSP : Hid (SmallP p) := hsp
  have HP : Hid (SK front B w (.slice a p.length cap) p) := hp
  clear hp hsp
  obtain ⟨W, hW⟩ : ∃ W, W = w.alloc (.cells #[.slice a p.length cap] 30) := ⟨_, rfl⟩
  have hwW : Below w.heap.size w W := by rw [hW]; exact (Below.refl _ _).alloc (Nat.le_refl _) _
  have P0 : Hid (Cells W w.heap.size [.slice a p.length cap]) := by rw [hW]; exact Cells.new w _ rfl _ _
  go_enter Try.func23, Try.ntmps23
  go_wp2_with fail
  rw [← hW]
  clear hW
  refine (isRightClass B p a cap t HSP.out _ (SK.on HP.out (Keep.of hwW))).mono ?_
  rintro e w1 ⟨rfl, hb1⟩
  have hw1 : Below w.heap.size w w1 := below_over hwW hb1
  have P1 : Hid (Cells w1 w.heap.size [.slice a p.length cap]) := P0.out.on hb1
  obtain ⟨q0, _⟩ := P1.out.g0
  clear hb1 P0
  cases hok : (okP p && inB p t)
  · have HN : Hid (selA p t s = -1) := by show _ = _; unfold selA; rw [hok]; rfl
    go_wp2
    go_ret
    exact ⟨retI HN.out.symm, hw1⟩
  · have HN : Hid (selA p t s = selF p t s) := by show _ = _; unfold selA; rw [hok]; rfl
    obtain ⟨hk, h0, h1⟩ := okIn hok
    have h6 := (okP_len hk).2
    have HSU : Hid (SupOk p p.length) := okP_sup hk
    clear hk hok
    go_wp2_with fail
    refine (selectedFrom B p a cap t s (by omega) h1 HSP.out h6 HSU.out _ (SK.on HP.out (Keep.of hw1))).mono ?_
    rintro e w2 ⟨rfl, hb2⟩
    have hw2 : Below w.heap.size w w2 := below_over hw1 hb2
    clear hb2 q0
    generalize selF p t s = q at *
    go_wp2
    go_ret
    exact ⟨retI HN.out.symm, hw2⟩
set_option maxHeartbeats 1000000 in
theorem specSelected (B : Nat) (p : Prg) (a : Option Addr) (cap : Nat) (t s : Int) (hsp : SmallP p) (w : World) (hp : SK front B w (.slice a p.length cap) p) :
    Calls Try.prog 22 #[.agg #[.slice a p.length cap], .int .i64 t, .int .i64 s] w fun e w' => e = .returned (.int .i64 (selA p t s)) ∧ Below w.heap.size w w' := by
  have HSP : Hid (SmallP p) := hsp
  have HP : Hid (SK front B w (.slice a p.length cap) p) := hp
  clear hp hsp
  obtain ⟨W, hW⟩ : ∃ W, W = w.alloc (.cells #[.slice a p.length cap] 30) := ⟨_, rfl⟩
  have hwW : Below w.heap.size w W := by rw [hW]; exact (Below.refl _ _).alloc (Nat.le_refl _) _
  have P0 : Hid (Cells W w.heap.size [.slice a p.length cap]) := by rw [hW]; exact Cells.new w _ rfl _ _
  go_enter Try.func22, Try.ntmps22
  go_wp2_with fail
  rw [← hW]
  clear hW
  refine (l4In B p a cap t HSP.out _ (SK.on HP.out (Keep.of hwW))).mono ?_
  rintro e w1 ⟨rfl, hb1⟩
  have hw1 : Below w.heap.size w w1 := below_over hwW hb1
  have P1 : Hid (Cells w1 w.heap.size [.slice a p.length cap]) := P0.out.on hb1
  obtain ⟨q0, _⟩ := P1.out.g0
  clear hb1 P0
  cases hok : (okP p && inB p t)
  · have HN : Hid (selA p t s = -1) := by show _ = _; unfold selA; rw [hok]; rfl
    go_wp2
    go_ret
    exact ⟨retI HN.out.symm, hw1⟩
  · have HN : Hid (selA p t s = selF p t s) := by show _ = _; unfold selA; rw [hok]; rfl
    obtain ⟨hk, h0, h1⟩ := okIn hok
    have h6 := (okP_len hk).2
    have HSU : Hid (SupOk p p.length) := okP_sup hk
    clear hk hok
    go_wp2_with fail
    refine (l5Selected B p a cap t s (by omega) h1 HSP.out h6 HSU.out _ (SK.on HP.out (Keep.of hw1))).mono ?_
    rintro e w2 ⟨rfl, hb2⟩
    have hw2 : Below w.heap.size w w2 := below_over hw1 hb2
    clear hb2 q0
    generalize selF p t s = q at *
    go_wp2
    go_ret
    exact ⟨retI HN.out.symm, hw2⟩
set_option maxHeartbeats 1000000 in
theorem implLowest (B : Nat) (p : Prg) (a : Option Addr) (cap : Nat) (t s : Int) (hsp : SmallP p) (w : World) (hp : SK front B w (.slice a p.length cap) p) :
    Calls Try.prog 21 #[.agg #[.slice a p.length cap], .int .i64 t, .int .i64 s] w fun e w' => e = .returned (.int .i64 (lowA p t s)) ∧ Below w.heap.size w w' := by
  have HSP : Hid (SmallP p) := hsp
  have HP : Hid (SK front B w (.slice a p.length cap) p) := hp
  clear hp hsp
  obtain ⟨W, hW⟩ : ∃ W, W = w.alloc (.cells #[.slice a p.length cap] 30) := ⟨_, rfl⟩
  have hwW : Below w.heap.size w W := by rw [hW]; exact (Below.refl _ _).alloc (Nat.le_refl _) _
  have P0 : Hid (Cells W w.heap.size [.slice a p.length cap]) := by rw [hW]; exact Cells.new w _ rfl _ _
  go_enter Try.func21, Try.ntmps21
  go_wp2_with fail
  rw [← hW]
  clear hW
  refine (isRightClass B p a cap t HSP.out _ (SK.on HP.out (Keep.of hwW))).mono ?_
  rintro e w1 ⟨rfl, hb1⟩
  have hw1 : Below w.heap.size w w1 := below_over hwW hb1
  have P1 : Hid (Cells w1 w.heap.size [.slice a p.length cap]) := P0.out.on hb1
  obtain ⟨q0, _⟩ := P1.out.g0
  clear hb1 P0
  cases hok : (okP p && inB p t)
  · have HN : Hid (lowA p t s = -1) := by show _ = _; unfold lowA; rw [hok]; rfl
    go_wp2
    go_ret
    exact ⟨retI HN.out.symm, hw1⟩
  · have HN : Hid (lowA p t s = if (decide (0 ≤ s) && decide (s < (p.length : Int))) then lowF p t s else -1) := by show _ = _; unfold lowA; rw [hok]; rfl
    obtain ⟨hk, h0, h1⟩ := okIn hok
    have h6 := (okP_len hk).2
    have HSU : Hid (SupOk p p.length) := okP_sup hk
    clear hk hok
    go_wp2_with fail
    refine (hasClass a p.length cap s _).mono ?_
    rintro e w2 ⟨rfl, hb2⟩
    have hw2 : Below w.heap.size w w2 := below_over hw1 hb2
    clear q0
    obtain ⟨q0, _⟩ := (P1.out.on hb2).g0
    clear hb2
    cases hin : (decide (0 ≤ s) && decide (s < (p.length : Int)))
    · have HM : Hid (lowA p t s = -1) := by show _ = _; rw [HN.out, hin]; rfl
      go_wp2
      go_ret
      exact ⟨retI HM.out.symm, hw2⟩
    · have HM : Hid (lowA p t s = lowF p t s) := by show _ = _; rw [HN.out, hin]; rfl
      simp only [Bool.and_eq_true, decide_eq_true_eq] at hin
      obtain ⟨h2, h3⟩ := hin
      clear HN
      go_wp2_with fail
      refine (lowestOf B p a cap t s (by omega) h1 (by omega) h3 h6 HSU.out _ (SK.on HP.out (Keep.of hw2))).mono ?_
      rintro e w3 ⟨rfl, hb3⟩
      have hw3 : Below w.heap.size w w3 := below_over hw2 hb3
      clear hb3 q0
      generalize lowF p t s = q at *
      go_wp2
      go_ret
      exact ⟨retI HM.out.symm, hw3⟩
set_option maxHeartbeats 1000000 in
theorem specLowest (B : Nat) (p : Prg) (a : Option Addr) (cap : Nat) (t s : Int) (hsp : SmallP p) (w : World) (hp : SK front B w (.slice a p.length cap) p) :
    Calls Try.prog 20 #[.agg #[.slice a p.length cap], .int .i64 t, .int .i64 s] w fun e w' => e = .returned (.int .i64 (lowA p t s)) ∧ Below w.heap.size w w' := by
  have HSP : Hid (SmallP p) := hsp
  have HP : Hid (SK front B w (.slice a p.length cap) p) := hp
  clear hp hsp
  obtain ⟨W, hW⟩ : ∃ W, W = w.alloc (.cells #[.slice a p.length cap] 30) := ⟨_, rfl⟩
  have hwW : Below w.heap.size w W := by rw [hW]; exact (Below.refl _ _).alloc (Nat.le_refl _) _
  have P0 : Hid (Cells W w.heap.size [.slice a p.length cap]) := by rw [hW]; exact Cells.new w _ rfl _ _
  go_enter Try.func20, Try.ntmps20
  go_wp2_with fail
  rw [← hW]
  clear hW
  refine (l4In B p a cap t HSP.out _ (SK.on HP.out (Keep.of hwW))).mono ?_
  rintro e w1 ⟨rfl, hb1⟩
  have hw1 : Below w.heap.size w w1 := below_over hwW hb1
  have P1 : Hid (Cells w1 w.heap.size [.slice a p.length cap]) := P0.out.on hb1
  obtain ⟨q0, _⟩ := P1.out.g0
  clear hb1 P0
  cases hok : (okP p && inB p t)
  · have HN : Hid (lowA p t s = -1) := by show _ = _; unfold lowA; rw [hok]; rfl
    go_wp2
    go_ret
    exact ⟨retI HN.out.symm, hw1⟩
  · have HN : Hid (lowA p t s = if (decide (0 ≤ s) && decide (s < (p.length : Int))) then lowF p t s else -1) := by show _ = _; unfold lowA; rw [hok]; rfl
    obtain ⟨hk, h0, h1⟩ := okIn hok
    have h6 := (okP_len hk).2
    have HSU : Hid (SupOk p p.length) := okP_sup hk
    clear hk hok
    by_cases h2 : 0 ≤ s
    · by_cases h3 : s < (p.length : Int)
      · have HM : Hid (lowA p t s = lowF p t s) := by show _ = _; rw [HN.out]; simp [h2, h3]
        clear HN
        go_wp2_with fail
        refine (l5Lowest B p a cap t s (by omega) h1 (by omega) h3 h6 HSU.out _ (SK.on HP.out (Keep.of hw1))).mono ?_
        rintro e w3 ⟨rfl, hb3⟩
        have hw3 : Below w.heap.size w w3 := below_over hw1 hb3
        clear hb3 q0
        generalize lowF p t s = q at *
        go_wp2
        go_ret
        exact ⟨retI HM.out.symm, hw3⟩
      · have HM : Hid (lowA p t s = -1) := by show _ = _; rw [HN.out]; simp [h3]
        clear HN
        go_wp2
        go_ret
        exact ⟨retI HM.out.symm, hw1⟩
    · have HM : Hid (lowA p t s = -1) := by show _ = _; rw [HN.out]; simp [h2]
      clear HN
      go_wp2
      go_ret
      exact ⟨retI HM.out.symm, hw1⟩
end Pg
end Go.Proofs.Ythjjfjakldbimab
