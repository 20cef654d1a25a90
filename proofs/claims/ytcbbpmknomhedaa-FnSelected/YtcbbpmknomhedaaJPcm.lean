/- Facts on who is above whom, of plain functions alone. -/
import Derived.Test.YtcbbpmknomhedaaJHi0
import Derived.Test.YtcbbpmknomhedaaJHi6
import Derived.Test.YtcbbpmknomhedaaJHi5
import Derived.Test.YtcbbpmknomhedaaJPc0
namespace Go.Proofs.Ytcbbpmknomhedaa
namespace Pg
open Go.ChangeShapes Go.WideShapes Go.ChangeAt Go.RowKit St

theorem upL_tail {p : Prg} (hs : SupOk p p.length) (h6 : p.length ≤ 6) : ∀ (n : Nat) (a : Nat), a < n → a < p.length → ∀ x, x ∈ upL p (a : Int) → ∃ pre, upL p (a : Int) = pre ++ upL p x := by
  intro n
  induction n with
  | zero => intro a h; omega
  | succ n ih =>
    intro a ha hal x hx
    have e := upL_step hs hal (by omega) (List.getElem?_eq_getElem hal)
    rw [e] at hx
    rcases List.mem_cons.1 hx with rfl | hx
    · exact ⟨[], rfl⟩
    · have h2 := hs a p[a] hal (List.getElem?_eq_getElem hal)
      by_cases h0 : p[a].super < 0
      · rw [upL_neg p h0] at hx; simp at hx
      · obtain ⟨s, hse⟩ := Int.eq_ofNat_of_zero_le (show 0 ≤ p[a].super by omega)
        rw [hse] at hx h2
        obtain ⟨pre, hp⟩ := ih s (by omega) (by omega) x hx
        exact ⟨(a : Int) :: pre, by rw [e, hse, hp]; rfl⟩
end Pg
end Go.Proofs.Ytcbbpmknomhedaa

/- Facts on who is above whom: the lowest of two, those below. -/
namespace Go.Proofs.Ytcbbpmknomhedaa
namespace Pg
open Go.ChangeShapes Go.WideShapes Go.ChangeAt Go.RowKit St

end Pg
end Go.Proofs.Ytcbbpmknomhedaa

/- What MethodOf answers. -/
namespace Go.Proofs.Ytcbbpmknomhedaa
namespace Pg
open Go.ChangeShapes Go.WideShapes Go.ChangeAt Go.RowKit St

def methF (p : Prg) (t name : Int) : Option Meth := if okP p && inB p t then (match p[t.toNat]? with | none => none | some c => ownF c name) else none
theorem methF_no {p : Prg} {t name : Int} (h : (okP p && inB p t) = false) : methF p t name = none := by unfold methF; rw [h]; rfl
theorem methF_at {p : Prg} {u : Nat} {name : Int} {c : Cls} (h : okP p = true) (hu : u < p.length) (hc : p[u]? = some c) : methF p (u : Int) name = ownF c name := by
  unfold methF
  have : inB p (u : Int) = true := by simp [inB]; omega
  rw [h, this]
  simp [hc]
/-- What MethodOf answers. -/
def MPost (p : Prg) (t name : Int) (w : World) (e : Ending) (w' : World) : Prop :=
  ((∃ m x1 y1 x2 y2, methF p t name = some m ∧ e = .returned (.tuple #[.agg #[.int .i64 m.name, .slice x1 m.args.length y1, .int .i64 m.gives, .slice x2 m.code.length y2], .bool true]) ∧ AnsM w.heap.size w' (.slice x1 m.args.length y1) (.slice x2 m.code.length y2) m) ∨
   (methF p t name = none ∧ e = .returned (.tuple #[.agg #[.int .i64 0, .slice none 0 0, .int .i64 0, .slice none 0 0], .bool false]))) ∧ Below w.heap.size w w'

end Pg
end Go.Proofs.Ytcbbpmknomhedaa
