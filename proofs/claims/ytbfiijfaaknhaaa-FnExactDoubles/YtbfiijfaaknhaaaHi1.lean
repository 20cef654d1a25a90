/- The program's iterator over the classes above, and who asks it. -/
import Derived.Test.YtbfiijfaaknhaaaHi0
import Derived.Test.YtbfiijfaaknhaaaPi0
import Derived.Test.YtbfiijfaaknhaaaRf0
import Derived.RangeFuncNested
import Derived.RangeFuncBound
import Derived.RangeFuncCalls
import Derived.RangeFuncLeaves
import Derived.Shelf.Abstract
import Derived.Shelf.RegionOpen
import Derived.WalkKit
import Derived.OwnWalkIn
import Derived.TacticsInMore
import Derived.LoopNIn
import Derived.LoopIn
namespace Go.Proofs.Ytbfiijfaaknhaaa
namespace Pg
open Go.ChangeShapes Go.WideShapes Go.ChangeAt Go.RowKit Go.Shelf St
attribute [local go_sem] Oper.semAt_some

set_option maxHeartbeats 400000 in
theorem upFrom_in (n : Nat) (a : Option Addr) (len cap : Nat) (c : Int) (w : World) :
    CallsIn Fence.wide n Try.prog 78 #[.agg #[.slice a len cap], .int .i64 c] w fun e w' => e = .returned (.func (.func 86) #[] #[.pointer (some ⟨w.heap.size + 1, 0, none⟩), .pointer (some ⟨w.heap.size, 0, none⟩)]) ∧ w' = (w.alloc (.cells #[.slice a len cap] 34)).alloc (.cells #[.int .i64 c] 2) := by
  refine callsIn_of_wp Try.func78 rfl trivial ?_ rfl
  simp only [Try.ntmps78, List.size_toArray, List.length_cons, List.length_nil, Nat.reduceAdd, Nat.reduceSub, Array.replicate_succ, Array.replicate_zero, List.push_toArray, List.append_toArray, List.nil_append, List.cons_append]
  gi_wp2
  go_ret
  exact ⟨rfl, rfl⟩

set_option maxRecDepth 100000 in
set_option maxHeartbeats 1000000 in
theorem up1_in {α : Type} (n : Nat) (hn : 1 ≤ n) (l bc bp B : Nat) (p : Prg) (a : Option Addr) (cap : Nat) (u0 : Int) (hu0 : -1 ≤ u0) (hu1 : u0 < (p.length : Int)) (h6 : p.length ≤ 6) (hsup : SupOk p p.length) (w0 : World) (hp : SK front B w0 (.slice a p.length cap) p) (en : α → Int) (mk : ∀ j : Nat, j < p.length → α) (hen : ∀ j hj, en (mk j hj) = (j : Int)) (J Jx : List α → World → Prop)
    (hY : ∀ pre x W, J pre W → pre.length < 6 → YieldAt Fence.wide (n - 1) Try.prog l #[.int .i64 (en x)] W fun e W' =>
      (e = .returned (.bool true) ∧ J (pre ++ [x]) W' ∧ Kp w0.heap.size [bp] W W') ∨ (e = .returned (.bool false) ∧ Jx (pre ++ [x]) W'))
    (W : World) (hW : Below w0.heap.size w0 W) (hbc : W.cell? ⟨bc, 0, none⟩ = some (.int .i64 u0)) (hbp : Boxed W bp 34 (.slice a p.length cap)) (h0 : J [] W) :
    CallsIn Fence.wide n Try.prog 86 #[.func (.yield l) #[] #[], .pointer (some ⟨bc, 0, none⟩), .pointer (some ⟨bp, 0, none⟩)] W fun e W' => (∃ v, e = .returned v) ∧
      ((∃ ys, ys.map en = upL p u0 ∧ J ys W') ∨ (∃ pre, pre.map en <+: upL p u0 ∧ Jx pre W')) := by
  have HP : Hid (SK front B w0 (.slice a p.length cap) p) := hp
  have HSUP : Hid (SupOk p p.length) := hsup
  clear hp hsup
  refine callsIn_of_wp Try.func86 rfl trivial ?_ rfl
  simp only [Try.ntmps86, List.size_toArray, List.length_cons, List.length_nil, Nat.reduceAdd, Nat.reduceSub, Array.replicate_succ, Array.replicate_zero, List.push_toArray, List.append_toArray, List.nil_append, List.cons_append]
  gi_wp2
  gi_loopw [4] (fun v wr => ∃ (pre : List α) (u : Int), v = .int .i64 u ∧ -1 ≤ u ∧ u < (p.length : Int) ∧ Hid (upL p u0 = pre.map en ++ upL p u) ∧ J pre wr ∧ Below w0.heap.size w0 wr ∧ Boxed wr bp 34 (.slice a p.length cap)) (fun v _ => (intOf v + 1).toNat)
  case atStart => exact ⟨[], u0, rfl, hu0, hu1, by show _ = _; simp, h0, hW, hbp⟩
  case round =>
    clear hu0 hu1 hbc hbp h0
    obtain ⟨pre, u, rfl, hu0, hu1, hx, hJ, hb, hbx⟩ := hrel
    by_cases hneg : u = -1
    · have HE : Hid (upL p u0 = pre.map en) := by
        show _ = _
        rw [hx.out, hneg, upL_neg p (by omega)]; simp
      subst hneg
      gi_wp2
      refine ⟨fun _ h => (by cases h), ?_⟩
      gi_wp2
      go_end0
      exact ⟨⟨_, rfl⟩, .inl ⟨pre, HE.out.symm, hJ⟩⟩
    · obtain ⟨j, rfl⟩ := Int.eq_ofNat_of_zero_le (show 0 ≤ u by omega)
      have hjp : j < p.length := by omega
      have hji : (j : Int) < (p.length : Int) := by omega
      have hj0 : (0 : Int) ≤ (j : Int) := by omega
      have hnb : ((j : Int) != -1) = true := by simp
      have HST : Hid (upL p u0 = (pre ++ [mk j hjp]).map en ++ upL p p[j].super) := by
        show _ = _
        rw [hx.out, upL_step HSUP.out hjp (by omega) (List.getElem?_eq_getElem hjp)]; simp [hen]
      have hlen : pre.length < 6 := by
        have h1 := upL_len p u0
        rw [HST.out] at h1
        simp at h1
        omega
      obtain ⟨b, o, rfl, _, vf, vm, d0, d1, d2, hcv⟩ := HP.out.get hjp
      have l0 : b < w0.heap.size := cell_lt d0
      have hsu := HSUP.out j _ hjp (List.getElem?_eq_getElem hjp)
      obtain ⟨fn, tmps, assign, body, hy, hR⟩ := hY pre (mk j hjp) wr hJ hlen
      rw [hen] at hy
      generalize mk j hjp = xj at *
      generalize p[j] = c at *
      have hsu1 := hsu.1
      have hsu2 := hsu.2
      clear hcv hsu d1 d2 hneg hx
      gi_wp2
      refine hR.mono ?_
      rintro e W3 (⟨rfl, hJ3, hk3⟩ | ⟨rfl, hJx3⟩)
      · have hb3 : Below w0.heap.size w0 W3 := hb.trans hk3.1
        have c0 := (hb3.cell l0).trans d0
        have hbx3 := hk3.boxed (by simp) hbx
        have p0 := hbx3.cell
        gi_wp2
        go_roundw
        case rel => exact ⟨pre ++ [xj], c.super, rfl, hsu1, by omega, HST.out, hJ3, hb3, hbx3⟩
        case measure => simp [intOf]; omega
      · gi_wp2
        go_end0
        exact ⟨⟨_, rfl⟩, .inr ⟨pre ++ [xj], ⟨_, HST.out.symm⟩, hJx3⟩⟩

/-- A class of a program of n. -/
abbrev Cl (n : Nat) := { x : Int // 0 ≤ x ∧ x < (n : Int) }
def vals {n : Nat} (l : List (Cl n)) : List Int := l.map (·.1)
theorem vals_snoc {n : Nat} (l : List (Cl n)) (x : Cl n) : vals (l ++ [x]) = vals l ++ [x.1] := by simp [vals]

/-- What the iterator over those above hands out. -/
theorem up_stops (n : Nat) (hn : 1 ≤ n) (bc bp B : Nat) (p : Prg) (a : Option Addr) (cap : Nat) (u0 : Int) (hu0 : -1 ≤ u0) (hu1 : u0 < (p.length : Int)) (h6 : p.length ≤ 6) (hsup : SupOk p p.length) (w0 w : World) (hp : SK front B w0 (.slice a p.length cap) p) (hw : Below w0.heap.size w0 w) (hbc : w.cell? ⟨bc, 0, none⟩ = some (.int .i64 u0)) (hbp : Boxed w bp 34 (.slice a p.length cap)) :
    SeqStopsK Fence.wide n Try.prog 86 #[.pointer (some ⟨bc, 0, none⟩), .pointer (some ⟨bp, 0, none⟩)] (fun x : Int => #[Value.int .i64 x]) (Kp w0.heap.size [bp]) (fun ys => ys = upL p u0) (fun pre => pre <+: upL p u0) 6 w := fun l J Jx W hW _ _ hY h0 =>
  (up1_in n hn l bc bp B p a cap u0 hu0 hu1 h6 hsup w0 hp (fun x : Int => x) (fun j _ => (j : Int)) (fun _ _ => rfl) J Jx hY W (hw.trans (hW.mono hw.size)) ((hW.cell (p := ⟨bc, 0, none⟩) (cell_lt hbc)).trans hbc) ((hW.block bp hbp.lt).trans hbp) h0).mono
    (fun e W' h => by simpa using h)
/-- The same, each of them a class that is there. -/
theorem up_stopsC (n : Nat) (hn : 1 ≤ n) (bc bp B : Nat) (p : Prg) (a : Option Addr) (cap : Nat) (u0 : Int) (hu0 : -1 ≤ u0) (hu1 : u0 < (p.length : Int)) (h6 : p.length ≤ 6) (hsup : SupOk p p.length) (w0 w : World) (hp : SK front B w0 (.slice a p.length cap) p) (hw : Below w0.heap.size w0 w) (hbc : w.cell? ⟨bc, 0, none⟩ = some (.int .i64 u0)) (hbp : Boxed w bp 34 (.slice a p.length cap)) :
    SeqStopsK Fence.wide n Try.prog 86 #[.pointer (some ⟨bc, 0, none⟩), .pointer (some ⟨bp, 0, none⟩)] (fun x : Cl p.length => #[Value.int .i64 x.1]) (Kp w0.heap.size [bp]) (fun ys => vals ys = upL p u0) (fun pre => vals pre <+: upL p u0) 6 w := fun l J Jx W hW _ _ hY h0 =>
  up1_in n hn l bc bp B p a cap u0 hu0 hu1 h6 hsup w0 hp (fun x : Cl p.length => x.1) (fun j hj => ⟨(j : Int), by omega, by omega⟩) (fun _ _ => rfl) J Jx hY W (hw.trans (hW.mono hw.size)) ((hW.cell (p := ⟨bc, 0, none⟩) (cell_lt hbc)).trans hbc) ((hW.block bp hbp.lt).trans hbp) h0
end Pg
end Go.Proofs.Ytbfiijfaaknhaaa
