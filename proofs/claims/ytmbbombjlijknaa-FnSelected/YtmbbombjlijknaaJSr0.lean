/- What the law FnSelected keeps on its way: a program in its box, rows of numbers. -/
import Derived.Test.YtmbbombjlijknaaJPi0
import Derived.Test.YtmbbombjlijknaaJPcm
import Derived.Test.YtmbbombjlijknaaJRs0
import Derived.BigQuiet
namespace Go.Proofs.Ytmbbombjlijknaa
namespace Pg
open Go.ChangeShapes Go.WideShapes Go.ChangeAt Go.RowKit St

theorem sel_big (w : World) (a0 : Option Addr) (len cap : Nat) (hl : ¬ len ≤ 4096) :
    Calls Try.prog 4 #[.slice a0 len cap] w fun e w' => e = .returned (.bool true) ∧ Below w.heap.size w w' := by
  have hnb : decide ((4096 : Int) < (len : Int)) = true := by simp; omega
  go_enter Try.func4, Try.ntmps4
  go_wp2_with (go_at_call 6; refine (Cu.big_at _ _ _ _).mono ?_; rintro e w1 ⟨rfl, rfl⟩)
  go_ret
  exact ⟨rfl, Below.refl _ _⟩

/-- A program in its box, and rows of numbers. -/
structure SR (w : World) (pb gp cp : Nat) (p : Prg) (rs : List (Nat × List Int)) (u : World) : Prop where
  b1 : Cells u pb [.slice (some ⟨gp, 0, none⟩) p.length cp]
  kp : SK front 0 u (.slice (some ⟨gp, 0, none⟩) p.length cp) p
  rw : ∀ r ∈ rs, IRow u r.1 0 r.2
  bl : Below w.heap.size w u
theorem SR.on {w : World} {pb gp cp : Nat} {p : Prg} {rs : List (Nat × List Int)} {u u' : World} (h : SR w pb gp cp p rs u) (hb : Below u.heap.size u u') : SR w pb gp cp p rs u' :=
  ⟨h.b1.on hb, SK.on h.kp (Keep.of hb), fun r hr => (h.rw r hr).on hb, below_over h.bl hb⟩
theorem SR.x {w : World} {pb gp cp : Nat} {p : Prg} {rs : List (Nat × List Int)} {u : World} (h : SR w pb gp cp p rs u) : u.cell? ⟨pb, 0, none⟩ = some (.slice (some ⟨gp, 0, none⟩) p.length cp) := h.b1.g0.1
theorem SR.call {w : World} {pb gp cp : Nat} {p : Prg} {rs : List (Nat × List Int)} {u : World} {f : Nat} {args : Array Value} {v : Value} (h : SR w pb gp cp p rs u) (c : Calls Try.prog f args u fun e u' => e = .returned v ∧ Below u.heap.size u u') :
    Calls Try.prog f args u fun e u' => e = .returned v ∧ SR w pb gp cp p rs u' ∧ u'.cell? ⟨pb, 0, none⟩ = some (.slice (some ⟨gp, 0, none⟩) p.length cp) :=
  c.mono fun _ _ ⟨he, hb⟩ => ⟨he, h.on hb, (h.on hb).b1.g0.1⟩
theorem SR.add {w : World} {pb gp cp : Nat} {p : Prg} {rs : List (Nat × List Int)} {u : World} {g : Nat} {l : List Int} (h : SR w pb gp cp p rs u) (hi : IRow u g 0 l) : SR w pb gp cp p ((g, l) :: rs) u :=
  ⟨h.b1, h.kp, fun r hr => by rcases List.mem_cons.1 hr with rfl | hr; · exact hi
                              · exact h.rw r hr, h.bl⟩
theorem SR.lst {w : World} {pb gp cp : Nat} {p : Prg} {rs : List (Nat × List Int)} {u : World} {f : Nat} {args : Array Value} {l : List Int} (h : SR w pb gp cp p rs u) (c : Calls Try.prog f args u fun e u' => ∃ v, e = .returned v ∧ (∃ g c, v = .slice (some ⟨g, 0, none⟩) l.length c ∧ IRow u' g 0 l) ∧ Below u.heap.size u u') :
    Calls Try.prog f args u fun e u' => ∃ gx cx, e = .returned (.slice (some ⟨gx, 0, none⟩) l.length cx) ∧ SR w pb gp cp p ((gx, l) :: rs) u' ∧ u'.cell? ⟨pb, 0, none⟩ = some (.slice (some ⟨gp, 0, none⟩) p.length cp) :=
  c.mono fun _ _ ⟨v, he, ⟨gx, cx, hv, hi⟩, hb⟩ => by
    subst hv
    exact ⟨gx, cx, he, (h.on hb).add hi, (h.on hb).b1.g0.1⟩
theorem GInt.li {B : Nat} {w : World} {v : Value} {l : List Int} (h : GInt B w v l) : ∃ g c, v = .slice (some ⟨g, 0, none⟩) l.length c ∧ IRow w g 0 l := by
  obtain ⟨g, c, hv, _, _, hi, _⟩ := h
  exact ⟨g, c, hv, hi⟩
theorem Lst.li {w : World} {v : Value} {l : List Int} (h : Lst w v l) : ∃ g c, v = .slice (some ⟨g, 0, none⟩) l.length c ∧ IRow w g 0 l := by
  obtain ⟨g, c, hv, _, _, hi⟩ := h
  exact ⟨g, c, hv, hi⟩
theorem sTargets (p : Prg) (a : Option Addr) (cap : Nat) (t nm : Int) (hsp : SmallP p) (w : World) (hp : SK front 0 w (.slice a p.length cap) p) :
    Calls Try.prog 22 #[.agg #[.slice a p.length cap], .int .i64 t, .int .i64 nm] w fun e w' => ∃ v, e = .returned v ∧ (∃ g c, v = .slice (some ⟨g, 0, none⟩) (targA p t nm).length c ∧ IRow w' g 0 (targA p t nm)) ∧ Below w.heap.size w w' :=
  (implTargets 0 p a cap t nm hsp w hp).mono fun _ _ ⟨v, he, hg, hb⟩ => ⟨v, he, hg.li, hb⟩
theorem sTargets' (p : Prg) (a : Option Addr) (cap : Nat) (t nm : Int) (hsp : SmallP p) (w : World) (hp : SK front 0 w (.slice a p.length cap) p) :
    Calls Try.prog 24 #[.agg #[.slice a p.length cap], .int .i64 t, .int .i64 nm] w fun e w' => ∃ v, e = .returned v ∧ (∃ g c, v = .slice (some ⟨g, 0, none⟩) (targA p t nm).length c ∧ IRow w' g 0 (targA p t nm)) ∧ Below w.heap.size w w' :=
  (specTargets 0 p a cap t nm hsp w hp).mono fun _ _ ⟨v, he, hg, hb⟩ => ⟨v, he, hg.li, hb⟩
theorem sBelow (p : Prg) (a : Option Addr) (cap : Nat) (t : Int) (hsp : SmallP p) (w : World) (hp : SK front 0 w (.slice a p.length cap) p) :
    Calls Try.prog 17 #[.agg #[.slice a p.length cap], .int .i64 t] w fun e w' => ∃ v, e = .returned v ∧ (∃ g c, v = .slice (some ⟨g, 0, none⟩) (downA p t).length c ∧ IRow w' g 0 (downA p t)) ∧ Below w.heap.size w w' :=
  (specBelowOf 0 p a cap t hsp w hp).mono fun _ _ ⟨v, he, hg, hb⟩ => ⟨v, he, hg.gint.li, hb⟩
theorem sAbove (p : Prg) (a : Option Addr) (cap : Nat) (t : Int) (hsp : SmallP p) (w : World) (hp : SK front 0 w (.slice a p.length cap) p) :
    Calls Try.prog 10 #[.agg #[.slice a p.length cap], .int .i64 t] w fun e w' => ∃ v, e = .returned v ∧ (∃ g c, v = .slice (some ⟨g, 0, none⟩) (upA p t).length c ∧ IRow w' g 0 (upA p t)) ∧ Below w.heap.size w w' :=
  (implAboveOf 0 p a cap t hsp w hp).mono fun _ _ ⟨v, he, hg, hb⟩ => ⟨v, he, hg.gint.li, hb⟩
theorem methYes (p : Prg) (a : Option Addr) (cap : Nat) (t nm : Int) (hsp : SmallP p) (hm : (methF p t nm).isSome = true) (w : World) (hp : SK front 0 w (.slice a p.length cap) p) :
    Calls Try.prog 25 #[.agg #[.slice a p.length cap], .int .i64 t, .int .i64 nm] w fun e w' => ∃ v1 x1 n1 y1 v3 x2 n2 y2, e = .returned (.tuple #[.agg #[.int .i64 v1, .slice x1 n1 y1, .int .i64 v3, .slice x2 n2 y2], .bool true]) ∧ Below w.heap.size w w' :=
  (implMethodOf 0 p a cap t nm hsp w hp).mono fun _ _ h => by
    obtain ⟨⟨m, x1, y1, x2, y2, _, he, _⟩ | ⟨hn, _⟩, hb⟩ := h
    · exact ⟨_, _, _, _, _, _, _, _, he, hb⟩
    · rw [hn] at hm; cases hm
theorem methNo (p : Prg) (a : Option Addr) (cap : Nat) (t nm : Int) (hsp : SmallP p) (hm : methF p t nm = none) (w : World) (hp : SK front 0 w (.slice a p.length cap) p) :
    Calls Try.prog 25 #[.agg #[.slice a p.length cap], .int .i64 t, .int .i64 nm] w fun e w' => e = .returned (.tuple #[.agg #[.int .i64 0, .slice none 0 0, .int .i64 0, .slice none 0 0], .bool false]) ∧ Below w.heap.size w w' :=
  (implMethodOf 0 p a cap t nm hsp w hp).mono fun _ _ h => by
    obtain ⟨⟨m, x1, y1, x2, y2, hs, _⟩ | ⟨_, he⟩, hb⟩ := h
    · rw [hs] at hm; cases hm
    · exact ⟨he, hb⟩
end Pg
end Go.Proofs.Ytmbbombjlijknaa
