/- What the law FnHier keeps on its way: two programs in their boxes, two rows of numbers. -/
import Derived.Test.YtmbbombjlijknaaJPi0
import Derived.Test.YtmbbombjlijknaaJHi4
import Derived.Test.YtmbbombjlijknaaJPcm
import Derived.Test.YtmbbombjlijknaaJRs0
import Derived.BigQuiet
namespace Go.Proofs.Ytmbbombjlijknaa
namespace Pg
open Go.ChangeShapes Go.WideShapes Go.ChangeAt Go.RowKit St

theorem hier_big (w : World) (a0 : Option Addr) (len cap : Nat) (hl : ¬ len ≤ 4096) :
    Calls Try.prog 3 #[.slice a0 len cap] w fun e w' => e = .returned (.bool true) ∧ Below w.heap.size w w' := by
  have hnb : decide ((4096 : Int) < (len : Int)) = true := by simp; omega
  go_enter Try.func3, Try.ntmps3
  go_wp2_with (go_at_call 6; refine (Cu.big_at _ _ _ _).mono ?_; rintro e w1 ⟨rfl, rfl⟩)
  go_ret
  exact ⟨rfl, Below.refl _ _⟩

/-- Two programs in their boxes, and two rows of numbers. -/
structure HR (w : World) (pb gp cp : Nat) (p : Prg) (qb gq cq : Nat) (q : Prg) (g1 : Nat) (lu : List Int) (g2 : Nat) (ld : List Int) (u : World) : Prop where
  b1 : Cells u pb [.slice (some ⟨gp, 0, none⟩) p.length cp]
  b2 : Cells u qb [.slice (some ⟨gq, 0, none⟩) q.length cq]
  kp : SK front 0 u (.slice (some ⟨gp, 0, none⟩) p.length cp) p
  kq : SK front 0 u (.slice (some ⟨gq, 0, none⟩) q.length cq) q
  up : IRow u g1 0 lu
  dn : IRow u g2 0 ld
  bl : Below w.heap.size w u
theorem HR.on {w : World} {pb gp cp : Nat} {p : Prg} {qb gq cq : Nat} {q : Prg} {g1 : Nat} {lu : List Int} {g2 : Nat} {ld : List Int} {u u' : World} (h : HR w pb gp cp p qb gq cq q g1 lu g2 ld u) (hb : Below u.heap.size u u') : HR w pb gp cp p qb gq cq q g1 lu g2 ld u' :=
  ⟨h.b1.on hb, h.b2.on hb, SK.on h.kp (Keep.of hb), SK.on h.kq (Keep.of hb), h.up.on hb, h.dn.on hb, below_over h.bl hb⟩
theorem HR.call {w : World} {pb gp cp : Nat} {p : Prg} {qb gq cq : Nat} {q : Prg} {g1 : Nat} {lu : List Int} {g2 : Nat} {ld : List Int} {u : World} {f : Nat} {args : Array Value} {v : Value} (h : HR w pb gp cp p qb gq cq q g1 lu g2 ld u) (c : Calls Try.prog f args u fun e u' => e = .returned v ∧ Below u.heap.size u u') :
    Calls Try.prog f args u fun e u' => e = .returned v ∧ HR w pb gp cp p qb gq cq q g1 lu g2 ld u' ∧ u'.cell? ⟨pb, 0, none⟩ = some (.slice (some ⟨gp, 0, none⟩) p.length cp) ∧ u'.cell? ⟨qb, 0, none⟩ = some (.slice (some ⟨gq, 0, none⟩) q.length cq) :=
  c.mono fun _ _ ⟨he, hb⟩ => ⟨he, h.on hb, (h.on hb).b1.g0.1, (h.on hb).b2.g0.1⟩
theorem HR.lst {w : World} {pb gp cp : Nat} {p : Prg} {qb gq cq : Nat} {q : Prg} {g1 : Nat} {lu : List Int} {g2 : Nat} {ld : List Int} {u : World} {f : Nat} {args : Array Value} {l : List Int} {B : Nat} (h : HR w pb gp cp p qb gq cq q g1 lu g2 ld u) (c : Calls Try.prog f args u fun e u' => ∃ v, e = .returned v ∧ Grow B u' v l ∧ Below u.heap.size u u') :
    Calls Try.prog f args u fun e u' => ∃ gx cx, e = .returned (.slice (some ⟨gx, 0, none⟩) l.length cx) ∧ IRow u' gx 0 l ∧ HR w pb gp cp p qb gq cq q g1 lu g2 ld u' ∧ u'.cell? ⟨pb, 0, none⟩ = some (.slice (some ⟨gp, 0, none⟩) p.length cp) ∧ u'.cell? ⟨qb, 0, none⟩ = some (.slice (some ⟨gq, 0, none⟩) q.length cq) :=
  c.mono fun _ _ ⟨v, he, hg, hb⟩ => by
    obtain ⟨gx, cx, rfl, _, _, hi, _⟩ := hg.gint
    exact ⟨gx, cx, he, hi, h.on hb, (h.on hb).b1.g0.1, (h.on hb).b2.g0.1⟩
end Pg
end Go.Proofs.Ytmbbombjlijknaa
