/- Contracts of the program's fitting and joining of shapes: whole. -/
import Derived.Test.YtfdlljdljefkfaaGreatDoorJKi1
namespace Go.Proofs.YtfdlljdljefkfaaGreatDoor
namespace Pg
open Go.ChangeShapes Go.WideShapes Go.ChangeAt Go.RowKit St
attribute [local go_sem] as_int_null as_int_none as_int_class as_null_null as_null_none as_null_class as_none_null as_none_none as_none_class as_class_null as_class_none as_class_class

theorem kind_class (t : Int) (w : World) : Calls Tryz.prog 143 #[.agg #[.int .i64 t]] w fun e w' => e = .returned (.int .i64 t) ∧ Below w.heap.size w w' := by
  go_enter Tryz.func143, Tryz.ntmps143
  go_wp2
  go_ret
  exact ⟨rfl, by go_grown⟩
theorem kind_int (w : World) : Calls Tryz.prog 144 #[.agg #[]] w fun e w' => e = .returned (.int .i64 (-1)) ∧ Below w.heap.size w w' := by
  go_enter Tryz.func144, Tryz.ntmps144
  go_wp2
  go_ret
  exact ⟨rfl, by go_grown⟩
theorem kind_null (w : World) : Calls Tryz.prog 145 #[.agg #[]] w fun e w' => e = .returned (.int .i64 (-2)) ∧ Below w.heap.size w w' := by
  go_enter Tryz.func145, Tryz.ntmps145
  go_wp2
  go_ret
  exact ⟨rfl, by go_grown⟩
theorem kind_none (w : World) : Calls Tryz.prog 146 #[.agg #[]] w fun e w' => e = .returned (.int .i64 (-3)) ∧ Below w.heap.size w w' := by
  go_enter Tryz.func146, Tryz.ntmps146
  go_wp2
  go_ret
  exact ⟨rfl, by go_grown⟩
theorem fit_self {p : Prg} (hs : SupOk p p.length) (h6 : p.length ≤ 6) {a b : Int} (hb : 0 ≤ b) (hb1 : a < (p.length : Int)) : fitB p a b = (decide (a = -2) || (decide (0 ≤ a) && undB p a b)) := by
  have h3 : ¬ b = -3 := by omega
  by_cases e : a = b
  · subst e
    obtain ⟨n, rfl⟩ := Int.eq_ofNat_of_zero_le hb
    have : undB p (n : Int) (n : Int) = true := by simp only [undB, decide_eq_true_eq]; exact upL_self hs h6 (by omega)
    simp [fitB, this]
  · simp [fitB, e, h3, hb]

theorem lowF_bd (p : Prg) (x y : Int) : -1 ≤ lowF p x y := by
  unfold lowF
  cases h : (upL p x).find? fun z => undB p y z with
  | none => simp
  | some z => have := (upL_mem (List.mem_of_find?_eq_some h)).1; simp; omega

set_option maxRecDepth 100000 in
set_option maxHeartbeats 1000000 in
theorem fitsShape_at (B : Nat) (p : Prg) (a : Option Addr) (cap : Nat) (x y : Int) (hx0 : -3 ≤ x) (hx1 : x < (p.length : Int)) (hy0 : -3 ≤ y) (h6 : p.length ≤ 6) (hsup : SupOk p p.length) (w : World) (hp : SK front B w (.slice a p.length cap) p) :
    Calls Tryz.prog 104 #[.agg #[.slice a p.length cap], shV x, shV y] w fun e w' => e = .returned (.bool (fitB p x y)) ∧ Below w.heap.size w w' := by
  have HP : Hid (SK front B w (.slice a p.length cap) p) := hp
  have HSU : Hid (SupOk p p.length) := hsup
  clear hp hsup
  have hb0 : Below w.heap.size w (w.alloc (.cells #[.slice a p.length cap] 37)) := (Below.refl _ _).alloc (Nat.le_refl _) _
  by_cases h0 : 0 ≤ y
  · rw [shV_class h0, fit_self HSU.out h6 h0 hx1]
    have hb1 : Below w.heap.size w ((w.alloc (.cells #[.slice a p.length cap] 37)).alloc (.cells #[.int .i64 y] 135)) := hb0.alloc hb0.size _
    go_enter Tryz.func104, Tryz.ntmps104
    go_wp2_with fail
    refine (fitsClass_at B p a cap x y hx0 hx1 h6 HSU.out _ (SK.on HP.out (Keep.of hb1))).mono ?_
    rintro e w1 ⟨rfl, hb2⟩
    go_wp2
    go_ret
    exact ⟨rfl, below_over hb1 hb2⟩
  · have hy : y = -1 ∨ y = -2 ∨ y = -3 := by omega
    rcases hy with rfl | rfl | rfl
    · rw [shV_int]
      have hx : x = -1 ∨ x = -2 ∨ x = -3 ∨ 0 ≤ x := by omega
      rcases hx with rfl | rfl | rfl | hx
      · rw [shV_int]
        have HR : Hid (fitB p (-1) (-1) = true) := by show _ = _; simp [fitB]
        rw [HR.out]
        go_enter Tryz.func104, Tryz.ntmps104
        go_wp2_with fail
        refine (kind_int _).mono ?_
        rintro e w1 ⟨rfl, hb1⟩
        go_wp2_with fail
        refine (kind_int _).mono ?_
        rintro e w2 ⟨rfl, hb2⟩
        go_wp2
        go_ret
        exact ⟨rfl, below_over (below_over hb0 hb1) hb2⟩
      · rw [shV_null]
        have HR : Hid (fitB p (-2) (-1) = false) := by show _ = _; simp [fitB]
        rw [HR.out]
        go_enter Tryz.func104, Tryz.ntmps104
        go_wp2_with fail
        refine (kind_null _).mono ?_
        rintro e w1 ⟨rfl, hb1⟩
        go_wp2_with fail
        refine (kind_int _).mono ?_
        rintro e w2 ⟨rfl, hb2⟩
        go_wp2
        go_ret
        exact ⟨rfl, below_over (below_over hb0 hb1) hb2⟩
      · rw [shV_none]
        have HR : Hid (fitB p (-3) (-1) = false) := by show _ = _; simp [fitB]
        rw [HR.out]
        go_enter Tryz.func104, Tryz.ntmps104
        go_wp2_with fail
        refine (kind_none _).mono ?_
        rintro e w1 ⟨rfl, hb1⟩
        go_wp2_with fail
        refine (kind_int _).mono ?_
        rintro e w2 ⟨rfl, hb2⟩
        go_wp2
        go_ret
        exact ⟨rfl, below_over (below_over hb0 hb1) hb2⟩
      · rw [shV_class hx]
        have HR : Hid (fitB p x (-1) = false) := by
          show _ = _
          have e1 : ¬ x = -1 := by omega
          simp [fitB, e1]
        have hne : (x == -1) = false := by simp; omega
        rw [HR.out]
        go_enter Tryz.func104, Tryz.ntmps104
        go_wp2_with fail
        refine (kind_class x _).mono ?_
        rintro e w1 ⟨rfl, hb1⟩
        go_wp2_with fail
        refine (kind_int _).mono ?_
        rintro e w2 ⟨rfl, hb2⟩
        go_wp2
        go_ret
        exact ⟨rfl, below_over (below_over hb0 hb1) hb2⟩
    · rw [shV_null]
      have hx : x = -1 ∨ x = -2 ∨ x = -3 ∨ 0 ≤ x := by omega
      rcases hx with rfl | rfl | rfl | hx
      · rw [shV_int]
        have HR : Hid (fitB p (-1) (-2) = false) := by show _ = _; simp [fitB]
        rw [HR.out]
        go_enter Tryz.func104, Tryz.ntmps104
        go_wp2_with fail
        refine (kind_int _).mono ?_
        rintro e w1 ⟨rfl, hb1⟩
        go_wp2_with fail
        refine (kind_null _).mono ?_
        rintro e w2 ⟨rfl, hb2⟩
        go_wp2
        go_ret
        exact ⟨rfl, below_over (below_over hb0 hb1) hb2⟩
      · rw [shV_null]
        have HR : Hid (fitB p (-2) (-2) = true) := by show _ = _; simp [fitB]
        rw [HR.out]
        go_enter Tryz.func104, Tryz.ntmps104
        go_wp2_with fail
        refine (kind_null _).mono ?_
        rintro e w1 ⟨rfl, hb1⟩
        go_wp2_with fail
        refine (kind_null _).mono ?_
        rintro e w2 ⟨rfl, hb2⟩
        go_wp2
        go_ret
        exact ⟨rfl, below_over (below_over hb0 hb1) hb2⟩
      · rw [shV_none]
        have HR : Hid (fitB p (-3) (-2) = false) := by show _ = _; simp [fitB]
        rw [HR.out]
        go_enter Tryz.func104, Tryz.ntmps104
        go_wp2_with fail
        refine (kind_none _).mono ?_
        rintro e w1 ⟨rfl, hb1⟩
        go_wp2_with fail
        refine (kind_null _).mono ?_
        rintro e w2 ⟨rfl, hb2⟩
        go_wp2
        go_ret
        exact ⟨rfl, below_over (below_over hb0 hb1) hb2⟩
      · rw [shV_class hx]
        have HR : Hid (fitB p x (-2) = false) := by
          show _ = _
          have e1 : ¬ x = -2 := by omega
          simp [fitB, e1]
        have hne : (x == -2) = false := by simp; omega
        rw [HR.out]
        go_enter Tryz.func104, Tryz.ntmps104
        go_wp2_with fail
        refine (kind_class x _).mono ?_
        rintro e w1 ⟨rfl, hb1⟩
        go_wp2_with fail
        refine (kind_null _).mono ?_
        rintro e w2 ⟨rfl, hb2⟩
        go_wp2
        go_ret
        exact ⟨rfl, below_over (below_over hb0 hb1) hb2⟩
    · rw [shV_none]
      go_enter Tryz.func104, Tryz.ntmps104
      go_wp2
      go_ret
      exact ⟨by simp [fitB], by go_grown⟩

end Pg
end Go.Proofs.YtfdlljdljefkfaaGreatDoor
