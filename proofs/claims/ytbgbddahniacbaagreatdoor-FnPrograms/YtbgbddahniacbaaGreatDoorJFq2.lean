/- What the law FnPrograms keeps on its way. -/
import Derived.Test.YtbgbddahniacbaaGreatDoorJInt0
import Derived.Test.YtbgbddahniacbaaGreatDoorJFq1
import Derived.Test.YtbgbddahniacbaaGreatDoorJPc3
import Derived.Test.YtbgbddahniacbaaGreatDoorJGw1
import Derived.Test.YtbgbddahniacbaaGreatDoorJSh8
import Derived.Deep.RegionHeld
namespace Go.Proofs.YtbgbddahniacbaaGreatDoor
namespace Pg
open Go.ChangeShapes Go.WideShapes Go.ChangeAt Go.RowKit St

set_option maxRecDepth 100000 in
theorem pgm_big (w : World) (a0 : Option Addr) (len cap : Nat) (hl : ¬ len ≤ 4096) :
    Calls Tryz.prog 3 #[.slice a0 len cap] w fun e w' => e = .returned (.bool true) ∧ Below w.heap.size w w' := by
  have hnb : decide ((4096 : Int) < (len : Int)) = true := by simp; omega
  go_enter Tryz.func3, Tryz.ntmps3
  go_wp2_with (go_at_call 4; refine (Cu.big_at _ _ _ _).mono ?_; rintro e w1 ⟨rfl, rfl⟩)
  go_ret
  exact ⟨rfl, Below.refl _ _⟩

/-- A program in its box. -/
structure P1 (w : World) (pb gp cp : Nat) (p : Prg) (u : World) : Prop where
  b1 : BoxT u pb 26 #[.slice (some ⟨gp, 0, none⟩) p.length cp]
  kp : SK front 0 u (.slice (some ⟨gp, 0, none⟩) p.length cp) p
  bl : Below w.heap.size w u
theorem P1.on {w : World} {pb gp cp : Nat} {p : Prg} {u u' : World} (h : P1 w pb gp cp p u) (hb : Below u.heap.size u u') : P1 w pb gp cp p u' :=
  ⟨h.b1.on hb, SK.on h.kp (Keep.of hb), below_over h.bl hb⟩
theorem P1.x {w : World} {pb gp cp : Nat} {p : Prg} {u : World} (h : P1 w pb gp cp p u) : u.cell? ⟨pb, 0, none⟩ = some (.slice (some ⟨gp, 0, none⟩) p.length cp) := h.b1.cell (i := 0) rfl
/-- Two methods in their boxes, a row of numbers, a program in its box. -/
structure QR (w : World) (pb gp cp : Nat) (p : Prg) (gf : Nat) (lf : List Int) (mb xb : Nat) (m : Meth) (x1 x2 x3 x4 : Option Addr) (y1 y2 y3 y4 : Nat) (u : World) : Prop where
  p1 : P1 w pb gp cp p u
  fr : IRow u gf 0 lf
  b2 : BoxT u mb 35 #[.int .i64 m.name, .slice x1 m.args.length y1, .int .i64 m.gives, .slice x2 m.code.length y2]
  b3 : BoxT u xb 35 #[.int .i64 m.name, .slice x3 m.args.length y3, .int .i64 m.gives, .slice x4 m.code.length y4]
  r1 : RI u x1 m.args
  r2 : RC u x2 m.code
  r3 : RI u x3 m.args
  r4 : RC u x4 m.code
theorem QR.on {w : World} {pb gp cp : Nat} {p : Prg} {gf : Nat} {lf : List Int} {mb xb : Nat} {m : Meth} {x1 x2 x3 x4 : Option Addr} {y1 y2 y3 y4 : Nat} {u u' : World} (h : QR w pb gp cp p gf lf mb xb m x1 x2 x3 x4 y1 y2 y3 y4 u) (hb : Below u.heap.size u u') : QR w pb gp cp p gf lf mb xb m x1 x2 x3 x4 y1 y2 y3 y4 u' :=
  ⟨h.p1.on hb, h.fr.on hb, h.b2.on hb, h.b3.on hb, h.r1.on hb, h.r2.on hb, h.r3.on hb, h.r4.on hb⟩
theorem QR.c0 {w : World} {pb gp cp : Nat} {p : Prg} {gf : Nat} {lf : List Int} {mb xb : Nat} {m : Meth} {x1 x2 x3 x4 : Option Addr} {y1 y2 y3 y4 : Nat} {u : World} (h : QR w pb gp cp p gf lf mb xb m x1 x2 x3 x4 y1 y2 y3 y4 u) : u.cell? ⟨mb, 0, none⟩ = some (.int .i64 m.name) ∧ u.cell? ⟨mb, 1, none⟩ = some (.slice x1 m.args.length y1) ∧ u.cell? ⟨mb, 2, none⟩ = some (.int .i64 m.gives) ∧ u.cell? ⟨mb, 3, none⟩ = some (.slice x2 m.code.length y2) :=
  ⟨h.b2.cell (i := 0) rfl, h.b2.cell (i := 1) rfl, h.b2.cell (i := 2) rfl, h.b2.cell (i := 3) rfl⟩
theorem QR.c1 {w : World} {pb gp cp : Nat} {p : Prg} {gf : Nat} {lf : List Int} {mb xb : Nat} {m : Meth} {x1 x2 x3 x4 : Option Addr} {y1 y2 y3 y4 : Nat} {u : World} (h : QR w pb gp cp p gf lf mb xb m x1 x2 x3 x4 y1 y2 y3 y4 u) : u.cell? ⟨xb, 0, none⟩ = some (.int .i64 m.name) ∧ u.cell? ⟨xb, 1, none⟩ = some (.slice x3 m.args.length y3) ∧ u.cell? ⟨xb, 2, none⟩ = some (.int .i64 m.gives) ∧ u.cell? ⟨xb, 3, none⟩ = some (.slice x4 m.code.length y4) :=
  ⟨h.b3.cell (i := 0) rfl, h.b3.cell (i := 1) rfl, h.b3.cell (i := 2) rfl, h.b3.cell (i := 3) rfl⟩
theorem QR.call {w : World} {pb gp cp : Nat} {p : Prg} {gf : Nat} {lf : List Int} {mb xb : Nat} {m : Meth} {x1 x2 x3 x4 : Option Addr} {y1 y2 y3 y4 : Nat} {u : World} {f : Nat} {args : Array Value} {v : Value} (h : QR w pb gp cp p gf lf mb xb m x1 x2 x3 x4 y1 y2 y3 y4 u) (c : Calls Tryz.prog f args u fun e u' => e = .returned v ∧ Below u.heap.size u u') :
    Calls Tryz.prog f args u fun e u' => e = .returned v ∧ QR w pb gp cp p gf lf mb xb m x1 x2 x3 x4 y1 y2 y3 y4 u' ∧ u'.cell? ⟨pb, 0, none⟩ = some (.slice (some ⟨gp, 0, none⟩) p.length cp) :=
  c.mono fun _ _ ⟨he, hb⟩ => ⟨he, h.on hb, (h.on hb).p1.x⟩
theorem QR.lst {w : World} {pb gp cp : Nat} {p : Prg} {gf : Nat} {lf : List Int} {mb xb : Nat} {m : Meth} {x1 x2 x3 x4 : Option Addr} {y1 y2 y3 y4 : Nat} {u : World} {f B : Nat} {args : Array Value} {l : List Int} (h : QR w pb gp cp p gf lf mb xb m x1 x2 x3 x4 y1 y2 y3 y4 u) (c : Calls Tryz.prog f args u fun e u' => ∃ v, e = .returned v ∧ Grow B u' v l ∧ Below u.heap.size u u') :
    Calls Tryz.prog f args u fun e u' => ∃ gx cx, e = .returned (.slice (some ⟨gx, 0, none⟩) l.length cx) ∧ Hid (Grow B u' (.slice (some ⟨gx, 0, none⟩) l.length cx) l) ∧ IRow u' gx 0 l ∧ QR w pb gp cp p gf lf mb xb m x1 x2 x3 x4 y1 y2 y3 y4 u' ∧ u'.cell? ⟨pb, 0, none⟩ = some (.slice (some ⟨gp, 0, none⟩) p.length cp) :=
  c.mono fun _ _ ⟨v, he, hg, hb⟩ => by
    obtain ⟨gx, cx, hv, _, _, hi, _⟩ := hg.gint
    subst hv
    exact ⟨gx, cx, he, hg, hi, h.on hb, (h.on hb).p1.x⟩
end Pg
end Go.Proofs.YtbgbddahniacbaaGreatDoor
