/- Contracts of both sides' question whether a program and a class of it are right. -/
import Derived.Test.YtbgbddahniacbaaGreatDoorJPi3
import Derived.Test.YtbgbddahniacbaaGreatDoorJPs1
import Derived.Test.YtbgbddahniacbaaGreatDoorJPc0
namespace Go.Proofs.YtbgbddahniacbaaGreatDoor
namespace Pg
open Go.ChangeShapes Go.WideShapes Go.ChangeAt Go.RowKit St

def inB (p : Prg) (t : Int) : Bool := decide (0 ≤ t) && decide (t < (p.length : Int))
theorem okIn {p : Prg} {t : Int} (h : (okP p && inB p t) = true) : okP p = true ∧ 0 ≤ t ∧ t < (p.length : Int) := by
  simp only [Bool.and_eq_true, inB, decide_eq_true_eq] at h
  exact h
set_option maxHeartbeats 1000000 in
theorem isRightClass (B : Nat) (p : Prg) (a : Option Addr) (cap : Nat) (t : Int) (hsp : SmallP p) (w : World) (hp : SK front B w (.slice a p.length cap) p) :
    Calls Tryz.prog 23 #[.agg #[.slice a p.length cap], .int .i64 t] w fun e w' => e = .returned (.bool (okP p && inB p t)) ∧ Below w.heap.size w w' := by
  have HSP : Hid (SmallP p) := hsp
  have HP : Hid (SK front B w (.slice a p.length cap) p) := hp
  clear hp hsp
  obtain ⟨W, hW⟩ : ∃ W, W = w.alloc (.cells #[.slice a p.length cap] 26) := ⟨_, rfl⟩
  have hwW : Below w.heap.size w W := by rw [hW]; exact (Below.refl _ _).alloc (Nat.le_refl _) _
  have P0 : Hid (Cells W w.heap.size [.slice a p.length cap]) := by rw [hW]; exact Cells.new w _ rfl _ _
  go_enter Tryz.func23, Tryz.ntmps23
  go_wp2_with fail
  rw [← hW]
  clear hW
  refine (implProgramOk B p a cap HSP.out _ (SK.on HP.out (Keep.of hwW))).mono ?_
  rintro e w1 ⟨rfl, hb1⟩
  have hw1 : Below w.heap.size w w1 := below_over hwW hb1
  obtain ⟨q0, _⟩ := (P0.out.on hb1).g0
  clear hb1 P0
  cases hok : okP p
  · have HN : Hid ((okP p && inB p t) = false) := by show _ = _; rw [hok]; rfl
    go_wp2
    go_ret
    exact ⟨retB HN.out.symm, hw1⟩
  · have HN : Hid ((okP p && inB p t) = (decide (0 ≤ t) && decide (t < (p.length : Int)))) := by show _ = _; rw [hok]; rfl
    go_wp2_with fail
    refine (hasClass a p.length cap t _).mono ?_
    rintro e w2 ⟨rfl, hb2⟩
    have hw2 : Below w.heap.size w w2 := below_over hw1 hb2
    clear hb2 q0 hok
    generalize (decide (0 ≤ t) && decide (t < (p.length : Int))) = q at *
    go_wp2
    go_ret
    exact ⟨retB HN.out.symm, hw2⟩
set_option maxHeartbeats 1000000 in
theorem l4In (B : Nat) (p : Prg) (a : Option Addr) (cap : Nat) (t : Int) (hsp : SmallP p) (w : World) (hp : SK front B w (.slice a p.length cap) p) :
    Calls Tryz.prog 31 #[.agg #[.slice a p.length cap], .int .i64 t] w fun e w' => e = .returned (.bool (okP p && inB p t)) ∧ Below w.heap.size w w' := by
  have HSP : Hid (SmallP p) := hsp
  have HP : Hid (SK front B w (.slice a p.length cap) p) := hp
  clear hp hsp
  obtain ⟨W, hW⟩ : ∃ W, W = w.alloc (.cells #[.slice a p.length cap] 26) := ⟨_, rfl⟩
  have hwW : Below w.heap.size w W := by rw [hW]; exact (Below.refl _ _).alloc (Nat.le_refl _) _
  have P0 : Hid (Cells W w.heap.size [.slice a p.length cap]) := by rw [hW]; exact Cells.new w _ rfl _ _
  go_enter Tryz.func31, Tryz.ntmps31
  go_wp2_with fail
  rw [← hW]
  clear hW
  refine (specProgramOk B p a cap HSP.out _ (SK.on HP.out (Keep.of hwW))).mono ?_
  rintro e w1 ⟨rfl, hb1⟩
  have hw1 : Below w.heap.size w w1 := below_over hwW hb1
  obtain ⟨q0, _⟩ := (P0.out.on hb1).g0
  clear hb1 P0
  cases hok : okP p
  · have HN : Hid ((okP p && inB p t) = false) := by show _ = _; rw [hok]; rfl
    go_wp2
    go_ret
    exact ⟨retB HN.out.symm, hw1⟩
  · by_cases h0 : 0 ≤ t
    · have HN : Hid ((okP p && inB p t) = decide (t < (p.length : Int))) := by show _ = _; rw [hok]; simp [inB, h0]
      by_cases h1 : t < (p.length : Int)
      · have HX : Hid ((okP p && inB p t) = true) := by show _ = _; rw [HN.out]; simp [h1]
        go_wp2
        go_ret
        exact ⟨retB HX.out.symm, hw1⟩
      · go_wp2
        go_ret
        exact ⟨retB HN.out.symm, hw1⟩
    · have HN : Hid (inB p t = false) := by show _ = _; simp [inB, h0]
      have HM : Hid ((okP p && inB p t) = false) := by show _ = _; rw [HN.out]; simp
      clear hok
      go_wp2
      go_ret
      exact ⟨retB HM.out.symm, hw1⟩

end Pg
end Go.Proofs.YtbgbddahniacbaaGreatDoor

/- What MethodOf answers. -/
namespace Go.Proofs.YtbgbddahniacbaaGreatDoor
namespace Pg
open Go.ChangeShapes Go.WideShapes Go.ChangeAt Go.RowKit St

def methF (p : Prg) (t name : Int) : Option Meth := if okP p && inB p t then (match p[t.toNat]? with | none => none | some c => ownF c name) else none
theorem methF_no {p : Prg} {t name : Int} (h : (okP p && inB p t) = false) : methF p t name = none := by unfold methF; rw [h]; rfl
theorem methF_at {p : Prg} {u : Nat} {name : Int} {c : Cls} (h : okP p = true) (hu : u < p.length) (hc : p[u]? = some c) : methF p (u : Int) name = ownF c name := by
  unfold methF
  have : inB p (u : Int) = true := by simp [inB]; omega
  rw [h, this]
  simp [hc]
/-- What MethodOf answers. -/
def MPost (p : Prg) (t name : Int) (w : World) (e : Ending) (w' : World) : Prop :=
  ((∃ m x1 y1 x2 y2, methF p t name = some m ∧ e = .returned (.tuple #[.agg #[.int .i64 m.name, .slice x1 m.args.length y1, .int .i64 m.gives, .slice x2 m.code.length y2], .bool true]) ∧ AnsM w.heap.size w' (.slice x1 m.args.length y1) (.slice x2 m.code.length y2) m) ∨
   (methF p t name = none ∧ e = .returned (.tuple #[.agg #[.int .i64 0, .slice none 0 0, .int .i64 0, .slice none 0 0], .bool false]))) ∧ Below w.heap.size w w'

end Pg
end Go.Proofs.YtbgbddahniacbaaGreatDoor
