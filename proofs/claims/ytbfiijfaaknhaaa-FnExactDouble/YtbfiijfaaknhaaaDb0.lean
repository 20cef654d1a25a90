/- Doubles, as plain functions of a program. -/
import Derived.Test.YtbfiijfaaknhaaaHi0
import Derived.Test.YtbfiijfaaknhaaaPs0
import Derived.Test.YtbfiijfaaknhaaaPr0
namespace Go.Proofs.Ytbfiijfaaknhaaa
namespace Pg
open Go.ChangeShapes Go.WideShapes Go.ChangeAt Go.RowKit St

/-- Is a method of this class what the nearest one above of its name is? -/
def dblB (p : Prg) (c : Cls) (own : Meth) : Bool := match p[(selF p c.super own.name).toNat]? with
  | none => false
  | some d => decide (0 ≤ selF p c.super own.name) && (match ownF d own.name with | none => false | some x => decide (own.code = x.code))
/-- The same, of the method of this name. -/
def dblN (p : Prg) (c : Cls) (name : Int) : Bool := match ownF c name with | none => false | some m => dblB p c m
/-- What Double answers. -/
def dblA (p : Prg) (t name : Int) : Bool := okP p && inB p t && (match p[t.toNat]? with | none => false | some c => dblN p c name)
/-- The numbers of a class's doubles. -/
def dblC (p : Prg) (i : Nat) (c : Cls) : List Int := (c.meths.filter (dblB p c)).map fun m => (i : Int) * 20 + m.name
/-- What Doubles answers. -/
def dblL (p : Prg) : List Int := if okP p then ((List.range p.length).map fun i => match p[i]? with | none => [] | some c => dblC p i c).flatten else []
/-- What Single answers of a class, of a program. -/
def sngC (p : Prg) (c : Cls) : Cls := ⟨c.super, c.fields, c.meths.filter fun m => !dblB p c m⟩
def sngP (p : Prg) : Prg := if okP p then p.map (sngC p) else []

theorem selF_or (p : Prg) (c n : Int) : selF p c n = -1 ∨ ∃ s d x, s < p.length ∧ selF p c n = ((s : Nat) : Int) ∧ p[s]? = some d ∧ ownF d n = some x := by
  unfold selF
  cases h : (upL p c).find? (hasM p n) with
  | none => exact .inl rfl
  | some y =>
    right
    have hy := upL_mem (List.mem_of_find?_eq_some h)
    have hh := List.find?_some h
    obtain ⟨s, rfl⟩ := Int.eq_ofNat_of_zero_le hy.1
    have hs : s < p.length := by omega
    unfold hasM at hh
    rw [Int.toNat_natCast, List.getElem?_eq_getElem hs] at hh
    cases hx : ownF p[s] n with
    | none => simp only [] at hh; rw [hx] at hh; simp at hh
    | some x => exact ⟨s, p[s], x, hs, rfl, List.getElem?_eq_getElem hs, hx⟩
theorem dblB_no {p : Prg} {c : Cls} {own : Meth} (h : selF p c.super own.name = -1) : dblB p c own = false := by
  unfold dblB
  rw [h]
  cases p[(-1 : Int).toNat]? <;> simp
theorem dblB_at {p : Prg} {c : Cls} {own : Meth} {s : Nat} {d : Cls} {x : Meth} (h : selF p c.super own.name = (s : Int)) (hd : p[s]? = some d) (hx : ownF d own.name = some x) : dblB p c own = decide (own.code = x.code) := by
  unfold dblB
  rw [h, Int.toNat_natCast, hd]
  simp [hx]
theorem dblA_no {p : Prg} {t name : Int} (h : (okP p && inB p t) = false) : dblA p t name = false := by unfold dblA; rw [h]; rfl
theorem dblA_none {p : Prg} {u : Nat} {name : Int} {c : Cls} (hc : p[u]? = some c) (h : ownF c name = none) : dblA p (u : Int) name = false := by
  unfold dblA
  rw [Int.toNat_natCast, hc]
  simp [dblN, h]
theorem dblA_some {p : Prg} {u : Nat} {name : Int} {c : Cls} {m : Meth} (hok : (okP p && inB p (u : Int)) = true) (hc : p[u]? = some c) (h : ownF c name = some m) : dblA p (u : Int) name = dblB p c m := by
  unfold dblA
  rw [hok, Int.toNat_natCast, hc]
  simp [dblN, h]
theorem ownF_name {c : Cls} {name : Int} {m : Meth} (h : ownF c name = some m) : m.name = name := by
  have := List.find?_some h
  simpa using this
end Pg
end Go.Proofs.Ytbfiijfaaknhaaa
