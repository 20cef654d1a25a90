/- The laws' own has and rises over rows of numbers. -/
import Derived.Test.YtcbbpmknomhedaaJLay
import Derived.Lib.QuietBelow
import Derived.Test.YtcbbpmknomhedaaJLo1
import Derived.Test.YtcbbpmknomhedaaJHi5
import Derived.Test.YtcbbpmknomhedaaJHp1
import Derived.Test.YtcbbpmknomhedaaJPc1
import Derived.BigQuiet
namespace Go.Proofs.Ytcbbpmknomhedaa
namespace St
open Go.ChangeShapes Go.WideShapes Go.ChangeAt Go.RowKit

set_option maxHeartbeats 800000 in
theorem risesYes (g cap : Nat) (l : List Int) (hl : l.length ≤ 1048576) (hup : ∀ k x y, l[k]? = some x → l[k + 1]? = some y → x < y) (w : World) (h1 : IRow w g 0 l) :
    Calls Try.prog 11 #[.slice (some ⟨g, 0, none⟩) l.length cap] w fun e w' => e = .returned (.bool true) ∧ Below w.heap.size w w' := by
  have H1 : Hid (IRow w g 0 l) := h1
  have HU : Hid (∀ k x y, l[k]? = some x → l[k + 1]? = some y → x < y) := hup
  clear h1 hup
  go_enter Try.func11, Try.ntmps11
  go_wp2
  go_loopw [3] (fun i wr => ∃ k : Nat, i = .int .i64 ((k : Int) + 1) ∧ k ≤ l.length ∧ Below w.heap.size w wr) (fun i _ => l.length + 1 - (intOf i).toNat)
  case atStart => exact ⟨0, rfl, Nat.zero_le _, Below.refl _ _⟩
  case round =>
    obtain ⟨k, rfl, hk, hb⟩ := hrel
    by_cases hlt : k + 1 < l.length
    · have a0 := H1.out.on hb (k + 1) _ (List.getElem?_eq_getElem hlt)
      have b0 := H1.out.on hb k _ (List.getElem?_eq_getElem (show k < l.length by omega))
      have hxy : l[k] < l[k + 1] := HU.out k _ _ (List.getElem?_eq_getElem (show k < l.length by omega)) (List.getElem?_eq_getElem hlt)
      generalize l[k + 1] = x at *
      generalize l[k] = y at *
      simp only [Nat.zero_add] at a0 b0
      have hki : (k : Int) + 1 < (l.length : Int) := by omega
      have hki0 : (0 : Int) ≤ (k : Int) + 1 := by omega
      have hwr : IntKind.i64.wrap (k : Int) = (k : Int) := by simp [IntKind.wrap, IntKind.signed, IntKind.bits]; omega
      have htn : ((k : Int) + 1).toNat = k + 1 := by omega
      have hkk : (k : Int) < (l.length : Int) := by omega
      have r0 := cell_regrown a0
      have s0 := cell_regrown b0
      have hnle : ¬ x ≤ y := by omega
      go_wp2_with fail
      refine wp_region_quiet_below (by kernel_rfl) (by kernel_rfl) ?_
      repeat (quiet_step (fail))
      refine wpQuiet_nil ?_
      intro _ hw'
      obtain ⟨⟨dq, osq⟩, hw''⟩ := hw'
      subst hw''
      have hw1 : Below w.heap.size w (Sort.grow (redrawn wr dq) osq) := below_over hb (below_regrown wr dq osq)
      clear a0 b0 r0 s0 hb
      generalize Sort.grow (redrawn wr dq) osq = w1 at *
      go_wp2
      go_roundw
      case rel => exact ⟨k + 1, by go_num, by omega, hw1⟩
      case measure => simp [intOf]; omega
    · go_wp2
      go_ret
      exact ⟨rfl, hb⟩

set_option maxHeartbeats 800000 in
theorem hasAt (g cap : Nat) (l : List Int) (n : Int) (hl : l.length ≤ 1048576) (w : World) (h1 : IRow w g 0 l) :
    Calls Try.prog 13 #[.slice (some ⟨g, 0, none⟩) l.length cap, .int .i64 n] w fun e w' => e = .returned (.bool (decide (n ∈ l))) ∧ Below w.heap.size w w' := by
  have H1 : Hid (IRow w g 0 l) := h1
  clear h1
  go_enter Try.func13, Try.ntmps13
  go_wp2
  go_loopw [5] (fun i wr => ∃ k : Nat, i = .int .i64 (k : Int) ∧ k ≤ l.length ∧ Hid (n ∉ l.take k) ∧ Below w.heap.size w wr) (fun i _ => l.length + 1 - (intOf i).toNat)
  case atStart => exact ⟨0, rfl, Nat.zero_le _, fun h => by simp at h, Below.refl _ _⟩
  case round =>
    obtain ⟨k, rfl, hk, hno, hb⟩ := hrel
    by_cases hlt : k < l.length
    · have a0 := H1.out.on hb k _ (List.getElem?_eq_getElem hlt)
      have HT : Hid (l.take (k + 1) = l.take k ++ [l[k]]) := by show _ = _; rw [List.take_add_one, List.getElem?_eq_getElem hlt]; rfl
      have HM : Hid (l[k] ∈ l) := List.getElem_mem hlt
      generalize l[k] = x at *
      simp only [Nat.zero_add] at a0
      have hki : (k : Int) < (l.length : Int) := by omega
      have hki0 : (0 : Int) ≤ (k : Int) := by omega
      by_cases hx : x = n
      · have HD : Hid (decide (n ∈ l) = true) := by show _ = _; rw [← hx]; exact decide_eq_true HM.out
        subst hx
        clear HM HT hno
        go_wp2
        go_ret
        exact ⟨by rw [HD.out]; rfl, hb⟩
      · have hxb : (x == n) = false := by simpa using hx
        have HN : Hid (n ∉ l.take (k + 1)) := by
          intro h
          rw [HT.out] at h
          rcases List.mem_append.1 h with h | h
          · exact hno.out h
          · simp at h; exact hx h.symm
        clear HM HT hno
        go_wp2
        go_roundw
        case rel => exact ⟨k + 1, by go_num, by omega, HN.out, hb⟩
        case measure => simp [intOf]; omega
    · have hk' : k = l.length := by omega
      have HD : Hid (decide (n ∈ l) = false) := by
        show _ = _
        have := hno.out
        rw [hk', List.take_length] at this
        exact decide_eq_false this
      have hki : ¬ (k : Int) < (l.length : Int) := by omega
      clear hno hk'
      go_wp2
      go_ret
      exact ⟨by rw [HD.out]; rfl, hb⟩
end St
end Go.Proofs.Ytcbbpmknomhedaa

/- What the law FnSelected keeps on its way: a program in its box, rows of numbers. -/
namespace Go.Proofs.Ytcbbpmknomhedaa
namespace Pg
open Go.ChangeShapes Go.WideShapes Go.ChangeAt Go.RowKit St

theorem sel_big (w : World) (a0 : Option Addr) (len cap : Nat) (hl : ¬ len ≤ 4096) :
    Calls Try.prog 3 #[.slice a0 len cap] w fun e w' => e = .returned (.bool true) ∧ Below w.heap.size w w' := by
  have hnb : decide ((4096 : Int) < (len : Int)) = true := by simp; omega
  go_enter Try.func3, Try.ntmps3
  go_wp2_with (go_at_call 4; refine (Cu.big_at _ _ _ _).mono ?_; rintro e w1 ⟨rfl, rfl⟩)
  go_ret
  exact ⟨rfl, Below.refl _ _⟩

/-- A program in its box, and rows of numbers. -/
structure SR (w : World) (pb gp cp : Nat) (p : Prg) (rs : List (Nat × List Int)) (u : World) : Prop where
  b1 : Cells u pb [.slice (some ⟨gp, 0, none⟩) p.length cp]
  kp : SK front 0 u (.slice (some ⟨gp, 0, none⟩) p.length cp) p
  rw : ∀ r ∈ rs, IRow u r.1 0 r.2
  bl : Below w.heap.size w u
theorem SR.on {w : World} {pb gp cp : Nat} {p : Prg} {rs : List (Nat × List Int)} {u u' : World} (h : SR w pb gp cp p rs u) (hb : Below u.heap.size u u') : SR w pb gp cp p rs u' :=
  ⟨h.b1.on hb, SK.on h.kp (Keep.of hb), fun r hr => (h.rw r hr).on hb, below_over h.bl hb⟩
theorem SR.x {w : World} {pb gp cp : Nat} {p : Prg} {rs : List (Nat × List Int)} {u : World} (h : SR w pb gp cp p rs u) : u.cell? ⟨pb, 0, none⟩ = some (.slice (some ⟨gp, 0, none⟩) p.length cp) := h.b1.g0.1
theorem SR.call {w : World} {pb gp cp : Nat} {p : Prg} {rs : List (Nat × List Int)} {u : World} {f : Nat} {args : Array Value} {v : Value} (h : SR w pb gp cp p rs u) (c : Calls Try.prog f args u fun e u' => e = .returned v ∧ Below u.heap.size u u') :
    Calls Try.prog f args u fun e u' => e = .returned v ∧ SR w pb gp cp p rs u' ∧ u'.cell? ⟨pb, 0, none⟩ = some (.slice (some ⟨gp, 0, none⟩) p.length cp) :=
  c.mono fun _ _ ⟨he, hb⟩ => ⟨he, h.on hb, (h.on hb).b1.g0.1⟩
theorem SR.add {w : World} {pb gp cp : Nat} {p : Prg} {rs : List (Nat × List Int)} {u : World} {g : Nat} {l : List Int} (h : SR w pb gp cp p rs u) (hi : IRow u g 0 l) : SR w pb gp cp p ((g, l) :: rs) u :=
  ⟨h.b1, h.kp, fun r hr => by rcases List.mem_cons.1 hr with rfl | hr; · exact hi
                              · exact h.rw r hr, h.bl⟩
theorem SR.lst {w : World} {pb gp cp : Nat} {p : Prg} {rs : List (Nat × List Int)} {u : World} {f : Nat} {args : Array Value} {l : List Int} (h : SR w pb gp cp p rs u) (c : Calls Try.prog f args u fun e u' => ∃ v, e = .returned v ∧ (∃ g c, v = .slice (some ⟨g, 0, none⟩) l.length c ∧ IRow u' g 0 l) ∧ Below u.heap.size u u') :
    Calls Try.prog f args u fun e u' => ∃ gx cx, e = .returned (.slice (some ⟨gx, 0, none⟩) l.length cx) ∧ SR w pb gp cp p ((gx, l) :: rs) u' ∧ u'.cell? ⟨pb, 0, none⟩ = some (.slice (some ⟨gp, 0, none⟩) p.length cp) :=
  c.mono fun _ _ ⟨v, he, ⟨gx, cx, hv, hi⟩, hb⟩ => by
    subst hv
    exact ⟨gx, cx, he, (h.on hb).add hi, (h.on hb).b1.g0.1⟩
theorem GInt.li {B : Nat} {w : World} {v : Value} {l : List Int} (h : GInt B w v l) : ∃ g c, v = .slice (some ⟨g, 0, none⟩) l.length c ∧ IRow w g 0 l := by
  obtain ⟨g, c, hv, _, _, hi, _⟩ := h
  exact ⟨g, c, hv, hi⟩
theorem Lst.li {w : World} {v : Value} {l : List Int} (h : Lst w v l) : ∃ g c, v = .slice (some ⟨g, 0, none⟩) l.length c ∧ IRow w g 0 l := by
  obtain ⟨g, c, hv, _, _, hi⟩ := h
  exact ⟨g, c, hv, hi⟩
theorem sTargets (p : Prg) (a : Option Addr) (cap : Nat) (t nm : Int) (hsp : SmallP p) (w : World) (hp : SK front 0 w (.slice a p.length cap) p) :
    Calls Try.prog 7 #[.agg #[.slice a p.length cap], .int .i64 t, .int .i64 nm] w fun e w' => ∃ v, e = .returned v ∧ (∃ g c, v = .slice (some ⟨g, 0, none⟩) (targA p t nm).length c ∧ IRow w' g 0 (targA p t nm)) ∧ Below w.heap.size w w' :=
  (implTargets 0 p a cap t nm hsp w hp).mono fun _ _ ⟨v, he, hg, hb⟩ => ⟨v, he, hg.li, hb⟩
theorem sTargets' (p : Prg) (a : Option Addr) (cap : Nat) (t nm : Int) (hsp : SmallP p) (w : World) (hp : SK front 0 w (.slice a p.length cap) p) :
    Calls Try.prog 10 #[.agg #[.slice a p.length cap], .int .i64 t, .int .i64 nm] w fun e w' => ∃ v, e = .returned v ∧ (∃ g c, v = .slice (some ⟨g, 0, none⟩) (targA p t nm).length c ∧ IRow w' g 0 (targA p t nm)) ∧ Below w.heap.size w w' :=
  (specTargets 0 p a cap t nm hsp w hp).mono fun _ _ ⟨v, he, hg, hb⟩ => ⟨v, he, hg.li, hb⟩
theorem sBelow (p : Prg) (a : Option Addr) (cap : Nat) (t : Int) (hsp : SmallP p) (w : World) (hp : SK front 0 w (.slice a p.length cap) p) :
    Calls Try.prog 12 #[.agg #[.slice a p.length cap], .int .i64 t] w fun e w' => ∃ v, e = .returned v ∧ (∃ g c, v = .slice (some ⟨g, 0, none⟩) (downA p t).length c ∧ IRow w' g 0 (downA p t)) ∧ Below w.heap.size w w' :=
  (specBelowOf 0 p a cap t hsp w hp).mono fun _ _ ⟨v, he, hg, hb⟩ => ⟨v, he, hg.gint.li, hb⟩
theorem sAbove (p : Prg) (a : Option Addr) (cap : Nat) (t : Int) (hsp : SmallP p) (w : World) (hp : SK front 0 w (.slice a p.length cap) p) :
    Calls Try.prog 15 #[.agg #[.slice a p.length cap], .int .i64 t] w fun e w' => ∃ v, e = .returned v ∧ (∃ g c, v = .slice (some ⟨g, 0, none⟩) (upA p t).length c ∧ IRow w' g 0 (upA p t)) ∧ Below w.heap.size w w' :=
  (implAboveOf 0 p a cap t hsp w hp).mono fun _ _ ⟨v, he, hg, hb⟩ => ⟨v, he, hg.gint.li, hb⟩
theorem methYes (p : Prg) (a : Option Addr) (cap : Nat) (t nm : Int) (hsp : SmallP p) (hm : (methF p t nm).isSome = true) (w : World) (hp : SK front 0 w (.slice a p.length cap) p) :
    Calls Try.prog 14 #[.agg #[.slice a p.length cap], .int .i64 t, .int .i64 nm] w fun e w' => ∃ v1 x1 n1 y1 v3 x2 n2 y2, e = .returned (.tuple #[.agg #[.int .i64 v1, .slice x1 n1 y1, .int .i64 v3, .slice x2 n2 y2], .bool true]) ∧ Below w.heap.size w w' :=
  (implMethodOf 0 p a cap t nm hsp w hp).mono fun _ _ h => by
    obtain ⟨⟨m, x1, y1, x2, y2, _, he, _⟩ | ⟨hn, _⟩, hb⟩ := h
    · exact ⟨_, _, _, _, _, _, _, _, he, hb⟩
    · rw [hn] at hm; cases hm
theorem methNo (p : Prg) (a : Option Addr) (cap : Nat) (t nm : Int) (hsp : SmallP p) (hm : methF p t nm = none) (w : World) (hp : SK front 0 w (.slice a p.length cap) p) :
    Calls Try.prog 14 #[.agg #[.slice a p.length cap], .int .i64 t, .int .i64 nm] w fun e w' => e = .returned (.tuple #[.agg #[.int .i64 0, .slice none 0 0, .int .i64 0, .slice none 0 0], .bool false]) ∧ Below w.heap.size w w' :=
  (implMethodOf 0 p a cap t nm hsp w hp).mono fun _ _ h => by
    obtain ⟨⟨m, x1, y1, x2, y2, hs, _⟩ | ⟨_, he⟩, hb⟩ := h
    · rw [hs] at hm; cases hm
    · exact ⟨he, hb⟩
end Pg
end Go.Proofs.Ytcbbpmknomhedaa
