/- What MethodOf answers. -/
import Derived.Test.YtbfiijfaaknhaaaPc0
import Derived.Test.YtbfiijfaaknhaaaPr0
namespace Go.Proofs.Ytbfiijfaaknhaaa
namespace Pg
open Go.ChangeShapes Go.WideShapes Go.ChangeAt Go.RowKit St

def methF (p : Prg) (t name : Int) : Option Meth := if okP p && inB p t then (match p[t.toNat]? with | none => none | some c => ownF c name) else none
theorem methF_no {p : Prg} {t name : Int} (h : (okP p && inB p t) = false) : methF p t name = none := by unfold methF; rw [h]; rfl
theorem methF_at {p : Prg} {u : Nat} {name : Int} {c : Cls} (h : okP p = true) (hu : u < p.length) (hc : p[u]? = some c) : methF p (u : Int) name = ownF c name := by
  unfold methF
  have : inB p (u : Int) = true := by simp [inB]; omega
  rw [h, this]
  simp [hc]
/-- What MethodOf answers. -/
def MPost (p : Prg) (t name : Int) (w : World) (e : Ending) (w' : World) : Prop :=
  ((∃ m x1 y1 x2 y2, methF p t name = some m ∧ e = .returned (.tuple #[.agg #[.int .i64 m.name, .slice x1 m.args.length y1, .int .i64 m.gives, .slice x2 m.code.length y2], .bool true]) ∧ AnsM w.heap.size w' (.slice x1 m.args.length y1) (.slice x2 m.code.length y2) m) ∨
   (methF p t name = none ∧ e = .returned (.tuple #[.agg #[.int .i64 0, .slice none 0 0, .int .i64 0, .slice none 0 0], .bool false]))) ∧ Below w.heap.size w w'

end Pg
end Go.Proofs.Ytbfiijfaaknhaaa
