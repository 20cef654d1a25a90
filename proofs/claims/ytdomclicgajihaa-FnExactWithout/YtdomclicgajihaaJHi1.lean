/- The contract of the program's copying of a row of methods. -/
import Derived.Test.YtdomclicgajihaaJZc1
import Derived.Test.YtdomclicgajihaaJPf0
import Derived.Test.YtdomclicgajihaaJPs0
import Derived.Test.YtdomclicgajihaaJPg3
import Derived.RangeFuncNested
import Derived.RangeFuncBound
import Derived.RangeFuncCalls
import Derived.RangeFuncLeaves
import Derived.Shelf.Abstract
import Derived.Shelf.RegionOpen
import Derived.WalkKit
import Derived.OwnWalkIn
import Derived.TacticsInMore
import Derived.LoopNIn
import Derived.LoopIn
import Derived.Deep.RegionHeld3
import Derived.OrdersIn
import Derived.Deep.MidRow
import Derived.Test.YtdomclicgajihaaJPi0
namespace Go.Proofs.Ytdomclicgajihaa
namespace Pg
open Go.ChangeShapes Go.WideShapes Go.ChangeAt Go.RowKit St

theorem cellD_set {w : World} {b i j : Nat} {v : Value} (h : i ≠ j) : cellD (w.setCell ⟨b, i, none⟩ v) ⟨b, j, none⟩ = cellD w ⟨b, j, none⟩ := by
  unfold cellD
  rw [World.cell?_setCell_other _ _ _ _ (ne_off h)]
theorem cellD_same {w : World} {b i : Nat} {v : Value} (h : ∃ x, w.cell? ⟨b, i, none⟩ = some x) : cellD (w.setCell ⟨b, i, none⟩ v) ⟨b, i, none⟩ = v := by
  obtain ⟨x, hx⟩ := h
  unfold cellD
  rw [World.cell?_setCell_same _ _ _ hx]
  rfl
theorem cellD_on {u w : World} {p : Addr} (hp : p.block < u.heap.size) (hb : Below u.heap.size u w) : cellD w p = cellD u p := by
  unfold cellD
  rw [hb.cell hp]
theorem apt_next {g k : Nat} {wr u2 : World} {ms : List Meth} (hk : k < ms.length) (hg : g < wr.heap.size) (hroom : Room u2 g (ms.length * 4)) (hb : Below wr.heap.size wr u2) {va vc : Value} (ha : AnsM wr.heap.size u2 va vc ms[k]) (h : Apt g (k * 4) (g + 1) wr.heap.size (adMl wr g 0 (ms.take k))) {n0 n2 : Value} :
    Apt g ((k + 1) * 4) (g + 1) ((((u2.setCell ⟨g, k * 4, none⟩ n0).setCell ⟨g, k * 4 + 1, none⟩ va).setCell ⟨g, k * 4 + 2, none⟩ n2).setCell ⟨g, k * 4 + 3, none⟩ vc).heap.size (adMl ((((u2.setCell ⟨g, k * 4, none⟩ n0).setCell ⟨g, k * 4 + 1, none⟩ va).setCell ⟨g, k * 4 + 2, none⟩ n2).setCell ⟨g, k * 4 + 3, none⟩ vc) g 0 (ms.take (k + 1))) := by
  have hz : wr.heap.size ≤ u2.heap.size := hb.size
  obtain ⟨x1, _⟩ := hroom (k * 4 + 1) (by omega)
  obtain ⟨x3, _⟩ := hroom (k * 4 + 3) (by omega)
  rw [adMl_take _ _ _ hk]
  have e : adMl ((((u2.setCell ⟨g, k * 4, none⟩ n0).setCell ⟨g, k * 4 + 1, none⟩ va).setCell ⟨g, k * 4 + 2, none⟩ n2).setCell ⟨g, k * 4 + 3, none⟩ vc) g 0 (ms.take k) = adMl wr g 0 (ms.take k) := by
    refine adMl_congr _ _ (fun j hj => ?_)
    rw [List.length_take] at hj
    refine ⟨?_, ?_⟩
    · rw [cellD_set (by omega), cellD_set (by omega), cellD_set (by omega), cellD_set (by omega)]
      exact cellD_on (p := ⟨g, 0 + j * 4 + 1, none⟩) hg hb
    · rw [cellD_set (by omega), cellD_set (by omega), cellD_set (by omega), cellD_set (by omega)]
      exact cellD_on (p := ⟨g, 0 + j * 4 + 3, none⟩) hg hb
  rw [e]
  have hkk : Keep (g + 1) u2 ((((u2.setCell ⟨g, k * 4, none⟩ n0).setCell ⟨g, k * 4 + 1, none⟩ va).setCell ⟨g, k * 4 + 2, none⟩ n2).setCell ⟨g, k * 4 + 3, none⟩ vc) := (((Keep.set u2 (p := ⟨g, k * 4, none⟩) (by simp) n0).trans (Keep.set _ (p := ⟨g, k * 4 + 1, none⟩) (by simp) va)).trans (Keep.set _ (p := ⟨g, k * 4 + 2, none⟩) (by simp) n2)).trans (Keep.set _ (p := ⟨g, k * 4 + 3, none⟩) (by simp) vc)
  have hA := ha.keep hkk (by omega)
  obtain ⟨q1, q2⟩ := adM_ans (o := 0 + k * 4) hg hA (by
      rw [cellD_set (by omega), cellD_set (by omega), Nat.zero_add]
      refine cellD_same ?_
      obtain ⟨x, hx⟩ := x1
      exact ⟨x, (World.cell?_setCell_other _ _ _ _ (ne_off (by omega))).trans hx⟩) (by
      rw [Nat.zero_add]
      refine cellD_same ?_
      obtain ⟨x, hx⟩ := x3
      exact ⟨x, (World.cell?_setCell_other _ _ _ _ (ne_off (by omega))).trans ((World.cell?_setCell_other _ _ _ _ (ne_off (by omega))).trans ((World.cell?_setCell_other _ _ _ _ (ne_off (by omega))).trans hx))⟩)
  exact h.app (by omega) hg (Nat.le_trans hz hkk.size) (by omega) q1 (fun p hp => by rcases q2 p hp with l | l; exact .inl ⟨l.1, by omega, by omega⟩; exact .inr l)

set_option maxRecDepth 100000 in
set_option maxHeartbeats 2000000 in
theorem copiedMethods (B : Nat) (ms : List Meth) (a : Option Addr) (cap : Nat) (hn : ms.length ≤ 1048576) (hs : ∀ m ∈ ms, SmallM m) (w : World) (hm : SM front B w (.slice a ms.length cap) ms) :
    Calls Try.prog 45 #[.slice a ms.length cap] w fun e w' => ∃ v, e = .returned v ∧ SM front w.heap.size w' v ms ∧ (adMs w' v ms).Nodup ∧ (∀ p ∈ adMs w' v ms, w.heap.size ≤ p.block ∧ p.block < w'.heap.size) ∧ Below w.heap.size w w' := by
  obtain ⟨i0, hi, hz0, hz1, hz2⟩ := info_parts infoMe
  have HM : Hid (SM front B w (.slice a ms.length cap) ms) := hm
  have HS : Hid (∀ m ∈ ms, SmallM m) := hs
  clear hm hs
  go_enter Try.func45, Try.ntmps45
  go_wp2_with (at_make; refine wpList_make_full _ rfl _ _ 61 rfl w.heap.size 52 i0 (.agg #[.int .i64 0, .slice none 0 0, .int .i64 0, .slice none 0 0]) 4 Try.underlying61 hi hz0 hz1 .i64 .i64 _ _ ms.length rfl rfl rfl rfl (by rw [hz2]; omega) (by unfold maxLen; omega) (Nat.le_refl _) ?_; intro w0 hown0 hgrow0)
  have hroom := room_own hown0 (Nat.le_refl _)
  have hsz0 : w.heap.size < w0.heap.size := row_made_lt hown0
  have hb0 : Below w.heap.size w w0 := (Below.refl _ _).grown hgrow0 (Nat.le_refl _) (fun _ h => by simp at h)
  clear hown0 hgrow0
  obtain ⟨g, hg⟩ : ∃ g, w.heap.size = g := ⟨_, rfl⟩
  rw [hg] at hroom hsz0 hb0
  try rw [hg]
  have HGG : Hid (w.heap.size = g) := hg
  clear hg
  go_loopw [11] (fun i wr => ∃ k : Nat, k ≤ ms.length ∧ i = .int .i64 (k : Int) ∧ Hid (Room wr g (ms.length * 4)) ∧ Hid (∀ j x, (ms.take k)[j]? = some x → MAt front (g + 1) wr g (0 + j * 4) x) ∧ Hid (Apt g (k * 4) (g + 1) wr.heap.size (adMl wr g 0 (ms.take k))) ∧ g < wr.heap.size ∧ Below g w wr) (fun i _ => ms.length - (intOf i).toNat)
  case atStart => exact ⟨0, Nat.zero_le _, rfl, hroom, (fun j x h => by simp at h), ⟨by simp [adMl], fun p hp => by simp [adMl] at hp⟩, hsz0, hb0⟩
  case round =>
    obtain ⟨k, hk, rfl, hrm, hrw, hap, hsz, hb⟩ := hrel
    by_cases hlt : k < ms.length
    · have hki : (k : Int) < (ms.length : Int) := by omega
      obtain ⟨b, o, rfl, _, va, vc, h0, h1, h2, h3, hmv⟩ := (SM.on HM.out (Keep.of (by rw [HGG.out]; exact hb))).get hlt
      obtain ⟨aa, ca, rfl⟩ := hmv.1.form
      obtain ⟨ac, cc, rfl⟩ := front.form hmv.2
      have HMV : Hid (MV front B wr (.slice aa ms[k].args.length ca) (.slice ac ms[k].code.length cc) ms[k]) := hmv
      have hsm := HS.out _ (List.getElem_mem hlt)
      have HN : Hid (∀ u, Below wr.heap.size wr u → ∀ va vc, MV front (g + 1) u va vc ms[k] → ∀ j x, (ms.take (k + 1))[j]? = some x → MAt front (g + 1) ((((u.setCell ⟨g, k * 4, none⟩ (.int .i64 ms[k].name)).setCell ⟨g, k * 4 + 1, none⟩ va).setCell ⟨g, k * 4 + 2, none⟩ (.int .i64 ms[k].gives)).setCell ⟨g, k * 4 + 3, none⟩ vc) g (0 + j * 4) x) :=
        fun u hu va vc hv => meths_next hlt (hrm.out.on hu) (fun j x hj => by
          obtain ⟨q1, q2, c0, c1, c2, c3, c4⟩ := hrw.out j x hj
          have l : g < wr.heap.size := hsz
          exact ⟨q1, q2, (hu.cell l).trans c0, (hu.cell l).trans c1, (hu.cell l).trans c2, (hu.cell l).trans c3, c4.on (Keep.of hu)⟩) hv
      have HP : Hid (∀ u2, Below wr.heap.size wr u2 → ∀ va vc, AnsM wr.heap.size u2 va vc ms[k] → Apt g ((k + 1) * 4) (g + 1) ((((u2.setCell ⟨g, k * 4, none⟩ (.int .i64 ms[k].name)).setCell ⟨g, k * 4 + 1, none⟩ va).setCell ⟨g, k * 4 + 2, none⟩ (.int .i64 ms[k].gives)).setCell ⟨g, k * 4 + 3, none⟩ vc).heap.size (adMl ((((u2.setCell ⟨g, k * 4, none⟩ (.int .i64 ms[k].name)).setCell ⟨g, k * 4 + 1, none⟩ va).setCell ⟨g, k * 4 + 2, none⟩ (.int .i64 ms[k].gives)).setCell ⟨g, k * 4 + 3, none⟩ vc) g 0 (ms.take (k + 1)))) :=
        fun u2 hu va vc ha => apt_next hlt hsz (hrm.out.on hu) hu ha hap.out
      clear hrw hmv HM hap
      generalize ms[k] = m at *
      obtain ⟨X, hX⟩ : ∃ X, X = wr.alloc (.cells #[.int .i64 m.name, .slice aa m.args.length ca, .int .i64 m.gives, .slice ac m.code.length cc] 52) := ⟨_, rfl⟩
      have hbX : Below wr.heap.size wr X := by rw [hX]; exact (Below.refl _ _).alloc (Nat.le_refl _) _
      have BX : Hid (Cells X wr.heap.size [.int .i64 m.name, .slice aa m.args.length ca, .int .i64 m.gives, .slice ac m.code.length cc]) := by show Cells _ _ _; rw [hX]; exact Cells.new wr _ rfl _ _
      obtain ⟨x0, _⟩ := BX.out.g0
      obtain ⟨x1, _⟩ := BX.out.g1
      obtain ⟨x2, _⟩ := BX.out.g2
      obtain ⟨x3, _⟩ := BX.out.g3
      go_upto_region 5 with fail
      rw [← hX]
      clear hX h0 h1 h2 h3
      go_wp2_with fail
      refine (copiedMethod B m aa ac ca cc hsm _ (HMV.out.on (Keep.of hbX))).mono ?_
      rintro e w1 ⟨a1, c1, a2, c2, rfl, hans, hb1, hcs⟩
      have hbw : Below wr.heap.size wr w1 := below_over hbX hb1
      have hans' : AnsM wr.heap.size w1 (.slice a1 m.args.length c1) (.slice a2 m.code.length c2) m := hans.weak hbX.size
      have hmv1 : MV front (g + 1) w1 (.slice a1 m.args.length c1) (.slice a2 m.code.length c2) m := by
        obtain ⟨M, _, _, hgz, _⟩ := hans'
        exact MV.weak (B := wr.heap.size) ⟨hgz.si, front.weak hcs hbX.size⟩ hsz
      have hw1 : Below g w w1 := hb.trans (hbw.mono (Nat.le_of_lt hsz))
      have hsz1 : g < w1.heap.size := Nat.lt_of_lt_of_le hsz hbw.size
      have HRM : Hid (Room w1 g (ms.length * 4)) := hrm.out.on hbw
      obtain ⟨⟨y0, d0⟩, f0⟩ := HRM.out (k * 4) (by omega)
      obtain ⟨⟨y1, d1⟩, f1⟩ := HRM.out (k * 4 + 1) (by omega)
      obtain ⟨⟨y2, d2⟩, f2⟩ := HRM.out (k * 4 + 2) (by omega)
      obtain ⟨⟨y3, d3⟩, f3⟩ := HRM.out (k * 4 + 3) (by omega)
      have HNX : Hid (∀ j x, (ms.take (k + 1))[j]? = some x → MAt front (g + 1) ((((w1.setCell ⟨g, k * 4, none⟩ (.int .i64 m.name)).setCell ⟨g, k * 4 + 1, none⟩ (.slice a1 m.args.length c1)).setCell ⟨g, k * 4 + 2, none⟩ (.int .i64 m.gives)).setCell ⟨g, k * 4 + 3, none⟩ (.slice a2 m.code.length c2)) g (0 + j * 4) x) := HN.out w1 hbw _ _ hmv1
      have HPX := HP.out w1 hbw _ _ hans'
      have HPY : Hid (Apt _ _ _ _ _) := HPX
      clear hb1 hbw hbX hrm HN HP hb hans hans' hmv1 hcs HMV hsm x0 x1 x2 x3 BX HPX
      go_wp2
      go_roundw
      case rel => exact ⟨k + 1, by omega, by go_num, (((HRM.out.set _ _).set _ _).set _ _).set _ _, HNX.out, HPY.out, by simpa using hsz1, (((hw1.setCell (Nat.le_refl _) _).setCell (Nat.le_refl _) _).setCell (Nat.le_refl _) _).setCell (Nat.le_refl _) _⟩
      case measure => simp [intOf]; omega
    · have hki : ¬ (k : Int) < (ms.length : Int) := by omega
      have e : ms.take k = ms := List.take_of_length_le (by omega)
      have HE := hrw.out
      rw [e] at HE
      have HEE : Hid (∀ j x, ms[j]? = some x → MAt front (g + 1) wr g (0 + j * 4) x) := HE
      have HA := hap.out
      rw [e] at HA
      have HAA : Hid (Apt g (k * 4) (g + 1) wr.heap.size (adMl wr g 0 ms)) := HA
      clear HE HA e hap hrw
      go_wp2
      go_ret
      rw [HGG.out]
      refine ⟨_, rfl, ⟨_, _, rfl, fun _ h => by simp at h, fun _ => ⟨g, 0, rfl, Nat.le_refl _, ⟨hsz, fun _ j hj => by rw [Nat.zero_add]; exact (hrm.out j hj).2⟩, fun j x hj => by
        obtain ⟨q1, q2, c0, c1, c2, c3, c4⟩ := HEE.out j x hj
        exact ⟨q1, q2, c0, c1, c2, c3, c4.weak (by omega)⟩⟩⟩, HAA.out.1, fun p hp => ?_, hb⟩
      rcases HAA.out.2 p hp with h | h <;> omega
end Pg
end Go.Proofs.Ytdomclicgajihaa

/- Doubles, as plain functions of a program. -/
namespace Go.Proofs.Ytdomclicgajihaa
namespace Pg
open Go.ChangeShapes Go.WideShapes Go.ChangeAt Go.RowKit St

/-- Is a method of this class what the nearest one above of its name is? -/
def dblB (p : Prg) (c : Cls) (own : Meth) : Bool := match p[(selF p c.super own.name).toNat]? with
  | none => false
  | some d => decide (0 ≤ selF p c.super own.name) && (match ownF d own.name with | none => false | some x => decide (own.code = x.code))
/-- The same, of the method of this name. -/
def dblN (p : Prg) (c : Cls) (name : Int) : Bool := match ownF c name with | none => false | some m => dblB p c m
/-- What Double answers. -/
def dblA (p : Prg) (t name : Int) : Bool := okP p && inB p t && (match p[t.toNat]? with | none => false | some c => dblN p c name)
/-- The numbers of a class's doubles. -/
def dblC (p : Prg) (i : Nat) (c : Cls) : List Int := (c.meths.filter (dblB p c)).map fun m => (i : Int) * 20 + m.name
/-- What Doubles answers. -/
def dblL (p : Prg) : List Int := if okP p then ((List.range p.length).map fun i => match p[i]? with | none => [] | some c => dblC p i c).flatten else []
/-- What Single answers of a class, of a program. -/
def sngC (p : Prg) (c : Cls) : Cls := ⟨c.super, c.fields, c.meths.filter fun m => !dblB p c m⟩
def sngP (p : Prg) : Prg := if okP p then p.map (sngC p) else []

theorem selF_or (p : Prg) (c n : Int) : selF p c n = -1 ∨ ∃ s d x, s < p.length ∧ selF p c n = ((s : Nat) : Int) ∧ p[s]? = some d ∧ ownF d n = some x := by
  unfold selF
  cases h : (upL p c).find? (hasM p n) with
  | none => exact .inl rfl
  | some y =>
    right
    have hy := upL_mem (List.mem_of_find?_eq_some h)
    have hh := List.find?_some h
    obtain ⟨s, rfl⟩ := Int.eq_ofNat_of_zero_le hy.1
    have hs : s < p.length := by omega
    unfold hasM at hh
    rw [Int.toNat_natCast, List.getElem?_eq_getElem hs] at hh
    cases hx : ownF p[s] n with
    | none => simp only [] at hh; rw [hx] at hh; simp at hh
    | some x => exact ⟨s, p[s], x, hs, rfl, List.getElem?_eq_getElem hs, hx⟩
theorem dblB_no {p : Prg} {c : Cls} {own : Meth} (h : selF p c.super own.name = -1) : dblB p c own = false := by
  unfold dblB
  rw [h]
  cases p[(-1 : Int).toNat]? <;> simp
theorem dblB_at {p : Prg} {c : Cls} {own : Meth} {s : Nat} {d : Cls} {x : Meth} (h : selF p c.super own.name = (s : Int)) (hd : p[s]? = some d) (hx : ownF d own.name = some x) : dblB p c own = decide (own.code = x.code) := by
  unfold dblB
  rw [h, Int.toNat_natCast, hd]
  simp [hx]
theorem dblA_no {p : Prg} {t name : Int} (h : (okP p && inB p t) = false) : dblA p t name = false := by unfold dblA; rw [h]; rfl
theorem dblA_none {p : Prg} {u : Nat} {name : Int} {c : Cls} (hc : p[u]? = some c) (h : ownF c name = none) : dblA p (u : Int) name = false := by
  unfold dblA
  rw [Int.toNat_natCast, hc]
  simp [dblN, h]
theorem dblA_some {p : Prg} {u : Nat} {name : Int} {c : Cls} {m : Meth} (hok : (okP p && inB p (u : Int)) = true) (hc : p[u]? = some c) (h : ownF c name = some m) : dblA p (u : Int) name = dblB p c m := by
  unfold dblA
  rw [hok, Int.toNat_natCast, hc]
  simp [dblN, h]
theorem ownF_name {c : Cls} {name : Int} {m : Meth} (h : ownF c name = some m) : m.name = name := by
  have := List.find?_some h
  simpa using this
end Pg
end Go.Proofs.Ytdomclicgajihaa

/- Ranges over functions: what a round keeps; regions that draw their order in a round; whole arrays in a round; marks of rounds behind one another. -/
namespace Go.Proofs.Ytdomclicgajihaa
namespace Pg
open Go.ChangeShapes Go.WideShapes Go.ChangeAt Go.RowKit Go.Shelf St
attribute [local go_sem] Oper.semAt_some

/-- Nothing below n₀ has turned, nor has one of these blocks. -/
def Kp (n₀ : Nat) (bs : List Nat) (W W' : World) : Prop := Below n₀ W W' ∧ ∀ b ∈ bs, b < W.heap.size → W'.heap[b]? = W.heap[b]?
theorem Kp.refl (n₀ : Nat) (bs : List Nat) (W : World) : Kp n₀ bs W W := ⟨Below.refl _ _, fun _ _ _ => rfl⟩
theorem kp_t {n₀ : Nat} {bs : List Nat} {A B C : World} (h : Kp n₀ bs A B) (k : Kp n₀ bs B C) : Kp n₀ bs A C :=
  ⟨h.1.trans k.1, fun b hb hl => (k.2 b hb (Nat.lt_of_lt_of_le hl h.1.size)).trans (h.2 b hb hl)⟩
theorem kp_b {n₀ : Nat} {bs : List Nat} {w : World} (hn : n₀ ≤ w.heap.size) (hbs : ∀ b ∈ bs, b < w.heap.size) (W : World) (l : Nat) (o o' : Obj) (hl : w.heap.size ≤ l) (h : W.heap[l]? = some o) (h1 : o.isCells = false) (h2 : o.isWalk = false) : Kp n₀ bs W (W.putObj l o') :=
  ⟨belowK_b hn W l o o' hl h h1 h2, fun b hb _ => World.putObj_heap_other (by have := hbs b hb; omega)⟩
theorem Kp.on {n₀ : Nat} {bs : List Nat} {W W' : World} (h : Below W.heap.size W W') (hn : n₀ ≤ W.heap.size) : Kp n₀ bs W W' := ⟨h.mono hn, fun b _ hl => h.block b hl⟩
theorem Kp.set {n₀ b₀ i : Nat} {bs : List Nat} (W : World) (hn : n₀ ≤ b₀) (hb : b₀ ∉ bs) (v : Value) : Kp n₀ bs W (W.setCell ⟨b₀, i, none⟩ v) :=
  ⟨(Below.refl _ _).setCell (p := ⟨b₀, i, none⟩) hn v, fun b hbs _ => Below.heap_setCell W ⟨b₀, i, none⟩ v b (fun e => hb (by subst e; exact hbs))⟩
theorem Kp.boxed {n₀ b : Nat} {bs : List Nat} {W W' : World} {t : TypeId} {v : Value} (h : Kp n₀ bs W W') (hb : b ∈ bs) (hx : Boxed W b t v) : Boxed W' b t v := (h.2 b hb hx.lt).trans hx
theorem keeps_of {W W' : World} (h : Below W.heap.size W W') : KeepsOthers W W' := KeepsOthers.of_grownBy (row := none) ⟨h.os, h.tape, h.output, h.size, fun k hk _ => h.block k hk⟩ (fun _ _ e => by cases e)

theorem oper_in {l n : Nat} {P : Program} {o : Oper} {a : Act} {w : World} {K : Act → World → Prop} {Q : Exit → Act → World → Prop} (h : ∀ c, o.op ≠ .defer c) (hh : Oper.wp P o a w K Q) : Oper.wpIn (Fence.wide.inRound l) n P o a w K Q := by
  refine ⟨fun _ _ => trivial, ?_⟩
  show o.uponIn _ n P a K Q ((o.semAt (some l) a.eval).run P w)
  rw [Oper.semAt_some l _ _ h]
  unfold Oper.wp at hh
  generalize (execOp a.eval o).run P w = r at *
  cases r with
  | ok x w' =>
    cases x <;> simp only [Oper.upon, Oper.uponIn] at hh ⊢ <;>
      first
        | exact hh
        | exact ⟨fun h => absurd h (by simp [Fence.wide, Fence.inRound]), callsIn_wide.2 hh⟩
        | exact ⟨fun h => absurd h (by simp [Fence.wide, Fence.inRound]), fun c cs _ => let ⟨v, w', r, s⟩ := hh c cs; ⟨v, w', r, stepsIn_wide.2 s⟩⟩
  | halt x w' => cases x <;> simp only [Oper.upon, Oper.uponIn] at hh ⊢ <;> exact hh
theorem wpOp_in {l n : Nat} {P : Program} {ops : Array Oper} {Q : Exit → Act → World → Prop} {i : Nat} {K : Act → World → Prop} {a : Act} {w : World} (hd : ∀ o ∈ ops, ∀ c, o.op ≠ .defer c) (hlo : ¬ LetsOut Q) (h : wpOp P ops Q i K a w) : wpOpIn (Fence.wide.inRound l) n P ops Q i K a w := by
  unfold wpOp at h
  unfold wpOpIn
  split
  · rename_i ho
    simpa [ho] using h
  · rename_i o ho
    simp only [ho] at h
    split
    · rename_i hw
      simp only [hw, if_true] at h
      rcases h with h | ⟨_, h⟩
      · exact oper_in (hd o (Array.mem_of_getElem? ho)) h
      · exact absurd h hlo
    · rename_i hw
      simp only [hw] at h
      exact ⟨fun _ _ => trivial, h⟩
theorem any_in {l n : Nat} {P : Program} {md : Region.Mode} {ops : Array Oper} {Q : Exit → Act → World → Prop} (hd : ∀ o ∈ ops, ∀ c, o.op ≠ .defer c) (hlo : ¬ LetsOut Q) : ∀ (fuel : Nat) (listed : Array Bool) (a : Act) (w : World), wpAny P md ops Q fuel listed a w → wpAnyIn (Fence.wide.inRound l) n P md ops Q fuel listed a w
  | 0, _, _, _, h => h
  | fuel + 1, _, _, _, h => ⟨h.1, fun i hi => wpOp_in hd hlo (wpOp_mono (fun a' w' h' => any_in hd hlo fuel _ a' w' h') (h.2 i hi))⟩
theorem round_held {l n id : Nat} {P : Program} {ops : Array Oper} {Q : Exit → Act → World → Prop} {a : Act} {w : World} {S : World → Prop} (hm : P.follows .mixedOrders = true) (hd : ∀ o ∈ ops, ∀ c, o.op ≠ .defer c) (hlo : ¬ LetsOut Q) (hS : S w.drew) (h : S w.drew → wpAnyH P .any ops Q S ops.size (Array.replicate ops.size false) a w.drew) : (Code.region id ops true).wpIn (Fence.wide.inRound l) n P Q a w :=
  wpIn_region_any hm (any_in hd hlo _ _ _ _ (wpAny_of_held _ _ _ _ (h hS)))

theorem Cells.keptBy {w w' : World} {row : Option Nat} {k : Nat} {vs : List Value} (h : Cells w k vs) (hg : w.grownBy w' row) (hr : ∀ r, row = some r → ∃ o : Obj, w.heap[r]? = some o ∧ o.isCells = false) : Cells w' k vs := fun i x hx => by
  obtain ⟨h1, h2⟩ := h i x hx
  exact ⟨cell_kept h1 hg hr, (frozen_kept h1 hg hr).trans h2⟩
theorem wpListIn_load_mid {F : Fence} {n : Nat} {P : Program} {ops : Array Oper} {rest : List Oper} {op : Oper} {a : Act} {w : World} {Q : Exit → Act → World → Prop} (hgd : op.guard = none) (ty : TypeId) (x : Operand) (ho : op.op = .load ty x)
    (b o : Nat) (hx : a.eval x = .pointer (some ⟨b, o, none⟩)) (cs : List Value) (d : TypeDesc) (hc : w.rangeAt b o cs)
    (hu : P.underlying ty = some d) (hd : d.isRow = true) (hi : (P.info? ty).map (·.size) = some cs.length)
    (h : wpListIn F n P ops Q rest (a.put op.dst (.agg cs.toArray)) w) : wpListIn F n P ops Q (op :: rest) a w := by
  refine wpListIn_plain hgd fun K hK => ?_
  unfold Oper.wpIn
  refine ⟨?_, ?_⟩
  · simp [Oper.about, ho]
  · rw [Oper.semAt_plain F _ _ (by rw [ho]; intro c hc'; cases hc')]
    unfold execOp
    simp only [ho, hx, Instr.loadAt, Instr.sureAddr, Sem.run_bind, Sem.run_pure, Result.andThen_ok, run_loadVar_mid w b o ty cs d hc hu hd hi]
    exact hK _ _ h
theorem wpListIn_store_mid {F : Fence} {n : Nat} {P : Program} {ops : Array Oper} {rest : List Oper} {op : Oper} {a : Act} {w : World} {Q : Exit → Act → World → Prop} (hgd : op.guard = none) (ty : TypeId) (x y : Operand) (ho : op.op = .store ty x y)
    (b o : Nat) (cells : Array Value) (hx : a.eval x = .pointer (some ⟨b, o, none⟩)) (hy : a.eval y = .agg cells)
    (ht : w.there b o cells.size) (hi : (P.info? ty).map (·.size) = some cells.size) (h1 : cells.all (·.oneCell') = true)
    (h : wpListIn F n P ops Q rest (a.put op.dst undef) (w.setCells b o cells.toList)) : wpListIn F n P ops Q (op :: rest) a w := by
  refine wpListIn_plain hgd fun K hK => ?_
  unfold Oper.wpIn
  refine ⟨?_, ?_⟩
  · simp [Oper.about, ho]
  · rw [Oper.semAt_plain F _ _ (by rw [ho]; intro c hc'; cases hc')]
    unfold execOp
    simp only [ho, hx, hy, Instr.storeAt, Instr.sureAddr, Sem.run_bind, Sem.run_pure, Result.andThen_ok, run_storeVar_mid w b o ty cells ht hi h1]
    exact hK _ _ h
/-- Marks of rounds that are over, each of another loop. -/
def marks (ds : List Nat) : List Deferred := ds.map fun D => { target := .collected D, args := #[] }
def Colls (B : Nat) (W : World) (ds : List Nat) : Prop := ds.Nodup ∧ ∀ D ∈ ds, B ≤ D ∧ W.heap[D]? = some (.deferred (some []))
theorem Colls.nil (B : Nat) (W : World) : Colls B W [] := ⟨List.nodup_nil, fun D h => by simp at h⟩
theorem Colls.on {B : Nat} {W W' : World} {ds : List Nat} (h : Colls B W ds) (hb : ∀ D ∈ ds, W'.heap[D]? = W.heap[D]?) : Colls B W' ds := ⟨h.1, fun D hD => ⟨(h.2 D hD).1, (hb D hD).trans (h.2 D hD).2⟩⟩
theorem Colls.lt {B : Nat} {W : World} {ds : List Nat} (h : Colls B W ds) {D : Nat} (hD : D ∈ ds) : D < W.heap.size := (Array.getElem?_eq_some_iff.1 (h.2 D hD).2).1
theorem Colls.below {B : Nat} {W W' : World} {ds : List Nat} (h : Colls B W ds) (hb : Below W.heap.size W W') : Colls B W' ds := h.on fun D hD => hb.block D (h.lt hD)
theorem leaves_colls {F : Fence} {n : Nat} {P : Program} {fn : Func} {tmps : Array Value} {R : Ending → World → Prop} (B : Nat) : ∀ (ds : List Nat) (W : World), Colls B W ds → (∀ W', Below B W W' → (∀ b, b ∉ ds → W'.heap[b]? = W.heap[b]?) → LeavesIn F n P fn tmps R [] .returning W') → LeavesInM F n P fn tmps R (marks ds) .returning W
  | [], W, _, h => h W (Below.refl _ _) fun _ _ => rfl
  | D :: ds, W, hc, h => by
    have hD := hc.2 D List.mem_cons_self
    have hn := List.nodup_cons.1 hc.1
    refine ⟨by simp, .inl ⟨D, _, rfl, run_takeDeferred hD.2, ?_⟩⟩
    have hbl : Below B W (W.putObj D (.deferred none)) := (Below.refl B W).grown (grownBy_putObj' W D _) (by have := hc.lt (D := D) List.mem_cons_self; omega) (fun k e => by cases e; exact hD.1)
    refine leaves_colls B ds _ ⟨hn.2, fun E hE => ⟨(hc.2 E (List.mem_cons_of_mem _ hE)).1, ?_⟩⟩ fun W' hb' hx => ?_
    · rw [World.putObj_heap_other (by rintro rfl; exact hn.1 hE)]
      exact (hc.2 E (List.mem_cons_of_mem _ hE)).2
    · refine h W' (hbl.trans hb') fun b hb => ?_
      rw [hx b fun e => hb (List.mem_cons_of_mem _ e), World.putObj_heap_other (by rintro rfl; exact hb List.mem_cons_self)]
end Pg
end Go.Proofs.Ytdomclicgajihaa

/- The program's iterator over the classes above, and who asks it. -/
namespace Go.Proofs.Ytdomclicgajihaa
namespace Pg
open Go.ChangeShapes Go.WideShapes Go.ChangeAt Go.RowKit Go.Shelf St
attribute [local go_sem] Oper.semAt_some

set_option maxHeartbeats 400000 in
theorem upFrom_in (n : Nat) (a : Option Addr) (len cap : Nat) (c : Int) (w : World) :
    CallsIn Fence.wide n Try.prog 83 #[.agg #[.slice a len cap], .int .i64 c] w fun e w' => e = .returned (.func (.func 90) #[] #[.pointer (some ⟨w.heap.size + 1, 0, none⟩), .pointer (some ⟨w.heap.size, 0, none⟩)]) ∧ w' = (w.alloc (.cells #[.slice a len cap] 28)).alloc (.cells #[.int .i64 c] 2) := by
  refine callsIn_of_wp Try.func83 rfl trivial ?_ rfl
  simp only [Try.ntmps83, List.size_toArray, List.length_cons, List.length_nil, Nat.reduceAdd, Nat.reduceSub, Array.replicate_succ, Array.replicate_zero, List.push_toArray, List.append_toArray, List.nil_append, List.cons_append]
  gi_wp2
  go_ret
  exact ⟨rfl, rfl⟩

set_option maxRecDepth 100000 in
set_option maxHeartbeats 1000000 in
theorem up1_in {α : Type} (n : Nat) (hn : 1 ≤ n) (l bc bp B : Nat) (p : Prg) (a : Option Addr) (cap : Nat) (u0 : Int) (hu0 : -1 ≤ u0) (hu1 : u0 < (p.length : Int)) (h6 : p.length ≤ 6) (hsup : SupOk p p.length) (w0 : World) (hp : SK front B w0 (.slice a p.length cap) p) (en : α → Int) (mk : ∀ j : Nat, j < p.length → α) (hen : ∀ j hj, en (mk j hj) = (j : Int)) (J Jx : List α → World → Prop)
    (hY : ∀ pre x W, J pre W → pre.length < 6 → YieldAt Fence.wide (n - 1) Try.prog l #[.int .i64 (en x)] W fun e W' =>
      (e = .returned (.bool true) ∧ J (pre ++ [x]) W' ∧ Kp w0.heap.size [bp] W W') ∨ (e = .returned (.bool false) ∧ Jx (pre ++ [x]) W'))
    (W : World) (hW : Below w0.heap.size w0 W) (hbc : W.cell? ⟨bc, 0, none⟩ = some (.int .i64 u0)) (hbp : Boxed W bp 28 (.slice a p.length cap)) (h0 : J [] W) :
    CallsIn Fence.wide n Try.prog 90 #[.func (.yield l) #[] #[], .pointer (some ⟨bc, 0, none⟩), .pointer (some ⟨bp, 0, none⟩)] W fun e W' => (∃ v, e = .returned v) ∧
      ((∃ ys, ys.map en = upL p u0 ∧ J ys W') ∨ (∃ pre, pre.map en <+: upL p u0 ∧ Jx pre W')) := by
  have HP : Hid (SK front B w0 (.slice a p.length cap) p) := hp
  have HSUP : Hid (SupOk p p.length) := hsup
  clear hp hsup
  refine callsIn_of_wp Try.func90 rfl trivial ?_ rfl
  simp only [Try.ntmps90, List.size_toArray, List.length_cons, List.length_nil, Nat.reduceAdd, Nat.reduceSub, Array.replicate_succ, Array.replicate_zero, List.push_toArray, List.append_toArray, List.nil_append, List.cons_append]
  gi_wp2
  gi_loopw [4] (fun v wr => ∃ (pre : List α) (u : Int), v = .int .i64 u ∧ -1 ≤ u ∧ u < (p.length : Int) ∧ Hid (upL p u0 = pre.map en ++ upL p u) ∧ J pre wr ∧ Below w0.heap.size w0 wr ∧ Boxed wr bp 28 (.slice a p.length cap)) (fun v _ => (intOf v + 1).toNat)
  case atStart => exact ⟨[], u0, rfl, hu0, hu1, by show _ = _; simp, h0, hW, hbp⟩
  case round =>
    clear hu0 hu1 hbc hbp h0
    obtain ⟨pre, u, rfl, hu0, hu1, hx, hJ, hb, hbx⟩ := hrel
    by_cases hneg : u = -1
    · have HE : Hid (upL p u0 = pre.map en) := by
        show _ = _
        rw [hx.out, hneg, upL_neg p (by omega)]; simp
      subst hneg
      gi_wp2
      refine ⟨fun _ h => (by cases h), ?_⟩
      gi_wp2
      go_end0
      exact ⟨⟨_, rfl⟩, .inl ⟨pre, HE.out.symm, hJ⟩⟩
    · obtain ⟨j, rfl⟩ := Int.eq_ofNat_of_zero_le (show 0 ≤ u by omega)
      have hjp : j < p.length := by omega
      have hji : (j : Int) < (p.length : Int) := by omega
      have hj0 : (0 : Int) ≤ (j : Int) := by omega
      have hnb : ((j : Int) != -1) = true := by simp
      have HST : Hid (upL p u0 = (pre ++ [mk j hjp]).map en ++ upL p p[j].super) := by
        show _ = _
        rw [hx.out, upL_step HSUP.out hjp (by omega) (List.getElem?_eq_getElem hjp)]; simp [hen]
      have hlen : pre.length < 6 := by
        have h1 := upL_len p u0
        rw [HST.out] at h1
        simp at h1
        omega
      obtain ⟨b, o, rfl, _, vf, vm, d0, d1, d2, hcv⟩ := HP.out.get hjp
      have l0 : b < w0.heap.size := cell_lt d0
      have hsu := HSUP.out j _ hjp (List.getElem?_eq_getElem hjp)
      obtain ⟨fn, tmps, assign, body, hy, hR⟩ := hY pre (mk j hjp) wr hJ hlen
      rw [hen] at hy
      generalize mk j hjp = xj at *
      generalize p[j] = c at *
      have hsu1 := hsu.1
      have hsu2 := hsu.2
      clear hcv hsu d1 d2 hneg hx
      gi_wp2
      refine hR.mono ?_
      rintro e W3 (⟨rfl, hJ3, hk3⟩ | ⟨rfl, hJx3⟩)
      · have hb3 : Below w0.heap.size w0 W3 := hb.trans hk3.1
        have c0 := (hb3.cell l0).trans d0
        have hbx3 := hk3.boxed (by simp) hbx
        have p0 := hbx3.cell
        gi_wp2
        go_roundw
        case rel => exact ⟨pre ++ [xj], c.super, rfl, hsu1, by omega, HST.out, hJ3, hb3, hbx3⟩
        case measure => simp [intOf]; omega
      · gi_wp2
        go_end0
        exact ⟨⟨_, rfl⟩, .inr ⟨pre ++ [xj], ⟨_, HST.out.symm⟩, hJx3⟩⟩

/-- A class of a program of n. -/
abbrev Cl (n : Nat) := { x : Int // 0 ≤ x ∧ x < (n : Int) }
def vals {n : Nat} (l : List (Cl n)) : List Int := l.map (·.1)
theorem vals_snoc {n : Nat} (l : List (Cl n)) (x : Cl n) : vals (l ++ [x]) = vals l ++ [x.1] := by simp [vals]

/-- What the iterator over those above hands out. -/
theorem up_stops (n : Nat) (hn : 1 ≤ n) (bc bp B : Nat) (p : Prg) (a : Option Addr) (cap : Nat) (u0 : Int) (hu0 : -1 ≤ u0) (hu1 : u0 < (p.length : Int)) (h6 : p.length ≤ 6) (hsup : SupOk p p.length) (w0 w : World) (hp : SK front B w0 (.slice a p.length cap) p) (hw : Below w0.heap.size w0 w) (hbc : w.cell? ⟨bc, 0, none⟩ = some (.int .i64 u0)) (hbp : Boxed w bp 28 (.slice a p.length cap)) :
    SeqStopsK Fence.wide n Try.prog 90 #[.pointer (some ⟨bc, 0, none⟩), .pointer (some ⟨bp, 0, none⟩)] (fun x : Int => #[Value.int .i64 x]) (Kp w0.heap.size [bp]) (fun ys => ys = upL p u0) (fun pre => pre <+: upL p u0) 6 w := fun l J Jx W hW _ _ hY h0 =>
  (up1_in n hn l bc bp B p a cap u0 hu0 hu1 h6 hsup w0 hp (fun x : Int => x) (fun j _ => (j : Int)) (fun _ _ => rfl) J Jx hY W (hw.trans (hW.mono hw.size)) ((hW.cell (p := ⟨bc, 0, none⟩) (cell_lt hbc)).trans hbc) ((hW.block bp hbp.lt).trans hbp) h0).mono
    (fun e W' h => by simpa using h)
/-- The same, each of them a class that is there. -/
theorem up_stopsC (n : Nat) (hn : 1 ≤ n) (bc bp B : Nat) (p : Prg) (a : Option Addr) (cap : Nat) (u0 : Int) (hu0 : -1 ≤ u0) (hu1 : u0 < (p.length : Int)) (h6 : p.length ≤ 6) (hsup : SupOk p p.length) (w0 w : World) (hp : SK front B w0 (.slice a p.length cap) p) (hw : Below w0.heap.size w0 w) (hbc : w.cell? ⟨bc, 0, none⟩ = some (.int .i64 u0)) (hbp : Boxed w bp 28 (.slice a p.length cap)) :
    SeqStopsK Fence.wide n Try.prog 90 #[.pointer (some ⟨bc, 0, none⟩), .pointer (some ⟨bp, 0, none⟩)] (fun x : Cl p.length => #[Value.int .i64 x.1]) (Kp w0.heap.size [bp]) (fun ys => vals ys = upL p u0) (fun pre => vals pre <+: upL p u0) 6 w := fun l J Jx W hW _ _ hY h0 =>
  up1_in n hn l bc bp B p a cap u0 hu0 hu1 h6 hsup w0 hp (fun x : Cl p.length => x.1) (fun j hj => ⟨(j : Int), by omega, by omega⟩) (fun _ _ => rfl) J Jx hY W (hw.trans (hW.mono hw.size)) ((hW.cell (p := ⟨bc, 0, none⟩) (cell_lt hbc)).trans hbc) ((hW.block bp hbp.lt).trans hbp) h0
end Pg
end Go.Proofs.Ytdomclicgajihaa
