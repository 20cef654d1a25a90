/- Ranges over functions: what a round keeps; regions that draw their order in a round; whole arrays in a round; marks of rounds behind one another. -/
import Derived.Test.YtinanjjhkddikaaGreatJSf1
import Derived.RangeFuncNested
import Derived.RangeFuncBound
import Derived.RangeFuncCalls
import Derived.RangeFuncLeaves
import Derived.Shelf.Abstract
import Derived.Shelf.RegionOpen
import Derived.WalkKit
import Derived.OwnWalkIn
import Derived.TacticsInMore
import Derived.LoopNIn
import Derived.LoopIn
import Derived.Deep.RegionHeld3
import Derived.OrdersIn
import Derived.Deep.MidRow
import Derived.Test.YtinanjjhkddikaaGreatJHi0
import Derived.Test.YtinanjjhkddikaaGreatJSf9
namespace Go.Proofs.YtinanjjhkddikaaGreat
namespace Pg
open Go.ChangeShapes Go.WideShapes Go.ChangeAt Go.RowKit Go.Shelf St
attribute [local go_sem] Oper.semAt_some

/-- Nothing below n₀ has turned, nor has one of these blocks. -/
def Kp (n₀ : Nat) (bs : List Nat) (W W' : World) : Prop := Below n₀ W W' ∧ ∀ b ∈ bs, b < W.heap.size → W'.heap[b]? = W.heap[b]?
theorem Kp.refl (n₀ : Nat) (bs : List Nat) (W : World) : Kp n₀ bs W W := ⟨Below.refl _ _, fun _ _ _ => rfl⟩
theorem kp_t {n₀ : Nat} {bs : List Nat} {A B C : World} (h : Kp n₀ bs A B) (k : Kp n₀ bs B C) : Kp n₀ bs A C :=
  ⟨h.1.trans k.1, fun b hb hl => (k.2 b hb (Nat.lt_of_lt_of_le hl h.1.size)).trans (h.2 b hb hl)⟩
theorem kp_b {n₀ : Nat} {bs : List Nat} {w : World} (hn : n₀ ≤ w.heap.size) (hbs : ∀ b ∈ bs, b < w.heap.size) (W : World) (l : Nat) (o o' : Obj) (hl : w.heap.size ≤ l) (h : W.heap[l]? = some o) (h1 : o.isCells = false) (h2 : o.isWalk = false) : Kp n₀ bs W (W.putObj l o') :=
  ⟨belowK_b hn W l o o' hl h h1 h2, fun b hb _ => World.putObj_heap_other (by have := hbs b hb; omega)⟩
theorem Kp.on {n₀ : Nat} {bs : List Nat} {W W' : World} (h : Below W.heap.size W W') (hn : n₀ ≤ W.heap.size) : Kp n₀ bs W W' := ⟨h.mono hn, fun b _ hl => h.block b hl⟩
theorem Kp.set {n₀ b₀ i : Nat} {bs : List Nat} (W : World) (hn : n₀ ≤ b₀) (hb : b₀ ∉ bs) (v : Value) : Kp n₀ bs W (W.setCell ⟨b₀, i, none⟩ v) :=
  ⟨(Below.refl _ _).setCell (p := ⟨b₀, i, none⟩) hn v, fun b hbs _ => Below.heap_setCell W ⟨b₀, i, none⟩ v b (fun e => hb (by subst e; exact hbs))⟩
theorem Kp.boxed {n₀ b : Nat} {bs : List Nat} {W W' : World} {t : TypeId} {v : Value} (h : Kp n₀ bs W W') (hb : b ∈ bs) (hx : Boxed W b t v) : Boxed W' b t v := (h.2 b hb hx.lt).trans hx
theorem keeps_of {W W' : World} (h : Below W.heap.size W W') : KeepsOthers W W' := KeepsOthers.of_grownBy (row := none) ⟨h.os, h.tape, h.output, h.size, fun k hk _ => h.block k hk⟩ (fun _ _ e => by cases e)

theorem oper_in {l n : Nat} {P : Program} {o : Oper} {a : Act} {w : World} {K : Act → World → Prop} {Q : Exit → Act → World → Prop} (h : ∀ c, o.op ≠ .defer c) (hh : Oper.wp P o a w K Q) : Oper.wpIn (Fence.wide.inRound l) n P o a w K Q := by
  refine ⟨fun _ _ => trivial, ?_⟩
  show o.uponIn _ n P a K Q ((o.semAt (some l) a.eval).run P w)
  rw [Oper.semAt_some l _ _ h]
  unfold Oper.wp at hh
  generalize (execOp a.eval o).run P w = r at *
  cases r with
  | ok x w' =>
    cases x <;> simp only [Oper.upon, Oper.uponIn] at hh ⊢ <;>
      first
        | exact hh
        | exact ⟨fun h => absurd h (by simp [Fence.wide, Fence.inRound]), callsIn_wide.2 hh⟩
        | exact ⟨fun h => absurd h (by simp [Fence.wide, Fence.inRound]), fun c cs _ => let ⟨v, w', r, s⟩ := hh c cs; ⟨v, w', r, stepsIn_wide.2 s⟩⟩
  | halt x w' => cases x <;> simp only [Oper.upon, Oper.uponIn] at hh ⊢ <;> exact hh
theorem wpOp_in {l n : Nat} {P : Program} {ops : Array Oper} {Q : Exit → Act → World → Prop} {i : Nat} {K : Act → World → Prop} {a : Act} {w : World} (hd : ∀ o ∈ ops, ∀ c, o.op ≠ .defer c) (hlo : ¬ LetsOut Q) (h : wpOp P ops Q i K a w) : wpOpIn (Fence.wide.inRound l) n P ops Q i K a w := by
  unfold wpOp at h
  unfold wpOpIn
  split
  · rename_i ho
    simpa [ho] using h
  · rename_i o ho
    simp only [ho] at h
    split
    · rename_i hw
      simp only [hw, if_true] at h
      rcases h with h | ⟨_, h⟩
      · exact oper_in (hd o (Array.mem_of_getElem? ho)) h
      · exact absurd h hlo
    · rename_i hw
      simp only [hw] at h
      exact ⟨fun _ _ => trivial, h⟩
theorem any_in {l n : Nat} {P : Program} {md : Region.Mode} {ops : Array Oper} {Q : Exit → Act → World → Prop} (hd : ∀ o ∈ ops, ∀ c, o.op ≠ .defer c) (hlo : ¬ LetsOut Q) : ∀ (fuel : Nat) (listed : Array Bool) (a : Act) (w : World), wpAny P md ops Q fuel listed a w → wpAnyIn (Fence.wide.inRound l) n P md ops Q fuel listed a w
  | 0, _, _, _, h => h
  | fuel + 1, _, _, _, h => ⟨h.1, fun i hi => wpOp_in hd hlo (wpOp_mono (fun a' w' h' => any_in hd hlo fuel _ a' w' h') (h.2 i hi))⟩
theorem round_held {l n id : Nat} {P : Program} {ops : Array Oper} {Q : Exit → Act → World → Prop} {a : Act} {w : World} {S : World → Prop} (hm : P.follows .mixedOrders = true) (hd : ∀ o ∈ ops, ∀ c, o.op ≠ .defer c) (hlo : ¬ LetsOut Q) (hS : S w.drew) (h : S w.drew → wpAnyH P .any ops Q S ops.size (Array.replicate ops.size false) a w.drew) : (Code.region id ops true).wpIn (Fence.wide.inRound l) n P Q a w :=
  wpIn_region_any hm (any_in hd hlo _ _ _ _ (wpAny_of_held _ _ _ _ (h hS)))

theorem Cells.keptBy {w w' : World} {row : Option Nat} {k : Nat} {vs : List Value} (h : Cells w k vs) (hg : w.grownBy w' row) (hr : ∀ r, row = some r → ∃ o : Obj, w.heap[r]? = some o ∧ o.isCells = false) : Cells w' k vs := fun i x hx => by
  obtain ⟨h1, h2⟩ := h i x hx
  exact ⟨cell_kept h1 hg hr, (frozen_kept h1 hg hr).trans h2⟩
theorem wpListIn_load_mid {F : Fence} {n : Nat} {P : Program} {ops : Array Oper} {rest : List Oper} {op : Oper} {a : Act} {w : World} {Q : Exit → Act → World → Prop} (hgd : op.guard = none) (ty : TypeId) (x : Operand) (ho : op.op = .load ty x)
    (b o : Nat) (hx : a.eval x = .pointer (some ⟨b, o, none⟩)) (cs : List Value) (d : TypeDesc) (hc : w.rangeAt b o cs)
    (hu : P.underlying ty = some d) (hd : d.isRow = true) (hi : (P.info? ty).map (·.size) = some cs.length)
    (h : wpListIn F n P ops Q rest (a.put op.dst (.agg cs.toArray)) w) : wpListIn F n P ops Q (op :: rest) a w := by
  refine wpListIn_plain hgd fun K hK => ?_
  unfold Oper.wpIn
  refine ⟨?_, ?_⟩
  · simp [Oper.about, ho]
  · rw [Oper.semAt_plain F _ _ (by rw [ho]; intro c hc'; cases hc')]
    unfold execOp
    simp only [ho, hx, Instr.loadAt, Instr.sureAddr, Sem.run_bind, Sem.run_pure, Result.andThen_ok, run_loadVar_mid w b o ty cs d hc hu hd hi]
    exact hK _ _ h
theorem wpListIn_store_mid {F : Fence} {n : Nat} {P : Program} {ops : Array Oper} {rest : List Oper} {op : Oper} {a : Act} {w : World} {Q : Exit → Act → World → Prop} (hgd : op.guard = none) (ty : TypeId) (x y : Operand) (ho : op.op = .store ty x y)
    (b o : Nat) (cells : Array Value) (hx : a.eval x = .pointer (some ⟨b, o, none⟩)) (hy : a.eval y = .agg cells)
    (ht : w.there b o cells.size) (hi : (P.info? ty).map (·.size) = some cells.size) (h1 : cells.all (·.oneCell') = true)
    (h : wpListIn F n P ops Q rest (a.put op.dst undef) (w.setCells b o cells.toList)) : wpListIn F n P ops Q (op :: rest) a w := by
  refine wpListIn_plain hgd fun K hK => ?_
  unfold Oper.wpIn
  refine ⟨?_, ?_⟩
  · simp [Oper.about, ho]
  · rw [Oper.semAt_plain F _ _ (by rw [ho]; intro c hc'; cases hc')]
    unfold execOp
    simp only [ho, hx, hy, Instr.storeAt, Instr.sureAddr, Sem.run_bind, Sem.run_pure, Result.andThen_ok, run_storeVar_mid w b o ty cells ht hi h1]
    exact hK _ _ h
/-- Marks of rounds that are over, each of another loop. -/
def marks (ds : List Nat) : List Deferred := ds.map fun D => { target := .collected D, args := #[] }
def Colls (B : Nat) (W : World) (ds : List Nat) : Prop := ds.Nodup ∧ ∀ D ∈ ds, B ≤ D ∧ W.heap[D]? = some (.deferred (some []))
theorem Colls.nil (B : Nat) (W : World) : Colls B W [] := ⟨List.nodup_nil, fun D h => by simp at h⟩
theorem Colls.on {B : Nat} {W W' : World} {ds : List Nat} (h : Colls B W ds) (hb : ∀ D ∈ ds, W'.heap[D]? = W.heap[D]?) : Colls B W' ds := ⟨h.1, fun D hD => ⟨(h.2 D hD).1, (hb D hD).trans (h.2 D hD).2⟩⟩
theorem Colls.lt {B : Nat} {W : World} {ds : List Nat} (h : Colls B W ds) {D : Nat} (hD : D ∈ ds) : D < W.heap.size := (Array.getElem?_eq_some_iff.1 (h.2 D hD).2).1
theorem Colls.below {B : Nat} {W W' : World} {ds : List Nat} (h : Colls B W ds) (hb : Below W.heap.size W W') : Colls B W' ds := h.on fun D hD => hb.block D (h.lt hD)
theorem leaves_colls {F : Fence} {n : Nat} {P : Program} {fn : Func} {tmps : Array Value} {R : Ending → World → Prop} (B : Nat) : ∀ (ds : List Nat) (W : World), Colls B W ds → (∀ W', Below B W W' → (∀ b, b ∉ ds → W'.heap[b]? = W.heap[b]?) → LeavesIn F n P fn tmps R [] .returning W') → LeavesInM F n P fn tmps R (marks ds) .returning W
  | [], W, _, h => h W (Below.refl _ _) fun _ _ => rfl
  | D :: ds, W, hc, h => by
    have hD := hc.2 D List.mem_cons_self
    have hn := List.nodup_cons.1 hc.1
    refine ⟨by simp, .inl ⟨D, _, rfl, run_takeDeferred hD.2, ?_⟩⟩
    have hbl : Below B W (W.putObj D (.deferred none)) := (Below.refl B W).grown (grownBy_putObj' W D _) (by have := hc.lt (D := D) List.mem_cons_self; omega) (fun k e => by cases e; exact hD.1)
    refine leaves_colls B ds _ ⟨hn.2, fun E hE => ⟨(hc.2 E (List.mem_cons_of_mem _ hE)).1, ?_⟩⟩ fun W' hb' hx => ?_
    · rw [World.putObj_heap_other (by rintro rfl; exact hn.1 hE)]
      exact (hc.2 E (List.mem_cons_of_mem _ hE)).2
    · refine h W' (hbl.trans hb') fun b hb => ?_
      rw [hx b fun e => hb (List.mem_cons_of_mem _ e), World.putObj_heap_other (by rintro rfl; exact hb List.mem_cons_self)]
end Pg
end Go.Proofs.YtinanjjhkddikaaGreat

/- The program's iterator over the classes above, and who asks it. -/
namespace Go.Proofs.YtinanjjhkddikaaGreat
namespace Pg
open Go.ChangeShapes Go.WideShapes Go.ChangeAt Go.RowKit Go.Shelf St
attribute [local go_sem] Oper.semAt_some

set_option maxHeartbeats 400000 in
theorem upFrom_in (n : Nat) (a : Option Addr) (len cap : Nat) (c : Int) (w : World) :
    CallsIn Fence.wide n Tryz.prog 91 #[.agg #[.slice a len cap], .int .i64 c] w fun e w' => e = .returned (.func (.func 103) #[] #[.pointer (some ⟨w.heap.size + 1, 0, none⟩), .pointer (some ⟨w.heap.size, 0, none⟩)]) ∧ w' = (w.alloc (.cells #[.slice a len cap] 30)).alloc (.cells #[.int .i64 c] 2) := by
  refine callsIn_of_wp Tryz.func91 rfl trivial ?_ rfl
  simp only [Tryz.ntmps91, List.size_toArray, List.length_cons, List.length_nil, Nat.reduceAdd, Nat.reduceSub, Array.replicate_succ, Array.replicate_zero, List.push_toArray, List.append_toArray, List.nil_append, List.cons_append]
  gi_wp2
  go_ret
  exact ⟨rfl, rfl⟩

set_option maxRecDepth 100000 in
set_option maxHeartbeats 1000000 in
theorem up1_in {α : Type} (n : Nat) (hn : 1 ≤ n) (l bc bp B : Nat) (p : Prg) (a : Option Addr) (cap : Nat) (u0 : Int) (hu0 : -1 ≤ u0) (hu1 : u0 < (p.length : Int)) (h6 : p.length ≤ 6) (hsup : SupOk p p.length) (w0 : World) (hp : SK front B w0 (.slice a p.length cap) p) (en : α → Int) (mk : ∀ j : Nat, j < p.length → α) (hen : ∀ j hj, en (mk j hj) = (j : Int)) (J Jx : List α → World → Prop)
    (hY : ∀ pre x W, J pre W → pre.length < 6 → YieldAt Fence.wide (n - 1) Tryz.prog l #[.int .i64 (en x)] W fun e W' =>
      (e = .returned (.bool true) ∧ J (pre ++ [x]) W' ∧ Kp w0.heap.size [bp] W W') ∨ (e = .returned (.bool false) ∧ Jx (pre ++ [x]) W'))
    (W : World) (hW : Below w0.heap.size w0 W) (hbc : W.cell? ⟨bc, 0, none⟩ = some (.int .i64 u0)) (hbp : Boxed W bp 30 (.slice a p.length cap)) (h0 : J [] W) :
    CallsIn Fence.wide n Tryz.prog 103 #[.func (.yield l) #[] #[], .pointer (some ⟨bc, 0, none⟩), .pointer (some ⟨bp, 0, none⟩)] W fun e W' => (∃ v, e = .returned v) ∧
      ((∃ ys, ys.map en = upL p u0 ∧ J ys W') ∨ (∃ pre, pre.map en <+: upL p u0 ∧ Jx pre W')) := by
  have HP : Hid (SK front B w0 (.slice a p.length cap) p) := hp
  have HSUP : Hid (SupOk p p.length) := hsup
  clear hp hsup
  refine callsIn_of_wp Tryz.func103 rfl trivial ?_ rfl
  simp only [Tryz.ntmps103, List.size_toArray, List.length_cons, List.length_nil, Nat.reduceAdd, Nat.reduceSub, Array.replicate_succ, Array.replicate_zero, List.push_toArray, List.append_toArray, List.nil_append, List.cons_append]
  gi_wp2
  gi_loopw [4] (fun v wr => ∃ (pre : List α) (u : Int), v = .int .i64 u ∧ -1 ≤ u ∧ u < (p.length : Int) ∧ Hid (upL p u0 = pre.map en ++ upL p u) ∧ J pre wr ∧ Below w0.heap.size w0 wr ∧ Boxed wr bp 30 (.slice a p.length cap)) (fun v _ => (intOf v + 1).toNat)
  case atStart => exact ⟨[], u0, rfl, hu0, hu1, by show _ = _; simp, h0, hW, hbp⟩
  case round =>
    clear hu0 hu1 hbc hbp h0
    obtain ⟨pre, u, rfl, hu0, hu1, hx, hJ, hb, hbx⟩ := hrel
    by_cases hneg : u = -1
    · have HE : Hid (upL p u0 = pre.map en) := by
        show _ = _
        rw [hx.out, hneg, upL_neg p (by omega)]; simp
      subst hneg
      gi_wp2
      refine ⟨fun _ h => (by cases h), ?_⟩
      gi_wp2
      go_end0
      exact ⟨⟨_, rfl⟩, .inl ⟨pre, HE.out.symm, hJ⟩⟩
    · obtain ⟨j, rfl⟩ := Int.eq_ofNat_of_zero_le (show 0 ≤ u by omega)
      have hjp : j < p.length := by omega
      have hji : (j : Int) < (p.length : Int) := by omega
      have hj0 : (0 : Int) ≤ (j : Int) := by omega
      have hnb : ((j : Int) != -1) = true := by simp
      have HST : Hid (upL p u0 = (pre ++ [mk j hjp]).map en ++ upL p p[j].super) := by
        show _ = _
        rw [hx.out, upL_step HSUP.out hjp (by omega) (List.getElem?_eq_getElem hjp)]; simp [hen]
      have hlen : pre.length < 6 := by
        have h1 := upL_len p u0
        rw [HST.out] at h1
        simp at h1
        omega
      obtain ⟨b, o, rfl, _, vf, vm, d0, d1, d2, hcv⟩ := HP.out.get hjp
      have l0 : b < w0.heap.size := cell_lt d0
      have hsu := HSUP.out j _ hjp (List.getElem?_eq_getElem hjp)
      obtain ⟨fn, tmps, assign, body, hy, hR⟩ := hY pre (mk j hjp) wr hJ hlen
      rw [hen] at hy
      generalize mk j hjp = xj at *
      generalize p[j] = c at *
      have hsu1 := hsu.1
      have hsu2 := hsu.2
      clear hcv hsu d1 d2 hneg hx
      gi_wp2
      refine hR.mono ?_
      rintro e W3 (⟨rfl, hJ3, hk3⟩ | ⟨rfl, hJx3⟩)
      · have hb3 : Below w0.heap.size w0 W3 := hb.trans hk3.1
        have c0 := (hb3.cell l0).trans d0
        have hbx3 := hk3.boxed (by simp) hbx
        have p0 := hbx3.cell
        gi_wp2
        go_roundw
        case rel => exact ⟨pre ++ [xj], c.super, rfl, hsu1, by omega, HST.out, hJ3, hb3, hbx3⟩
        case measure => simp [intOf]; omega
      · gi_wp2
        go_end0
        exact ⟨⟨_, rfl⟩, .inr ⟨pre ++ [xj], ⟨_, HST.out.symm⟩, hJx3⟩⟩

/-- A class of a program of n. -/
abbrev Cl (n : Nat) := { x : Int // 0 ≤ x ∧ x < (n : Int) }
def vals {n : Nat} (l : List (Cl n)) : List Int := l.map (·.1)
theorem vals_snoc {n : Nat} (l : List (Cl n)) (x : Cl n) : vals (l ++ [x]) = vals l ++ [x.1] := by simp [vals]

/-- What the iterator over those above hands out. -/
theorem up_stops (n : Nat) (hn : 1 ≤ n) (bc bp B : Nat) (p : Prg) (a : Option Addr) (cap : Nat) (u0 : Int) (hu0 : -1 ≤ u0) (hu1 : u0 < (p.length : Int)) (h6 : p.length ≤ 6) (hsup : SupOk p p.length) (w0 w : World) (hp : SK front B w0 (.slice a p.length cap) p) (hw : Below w0.heap.size w0 w) (hbc : w.cell? ⟨bc, 0, none⟩ = some (.int .i64 u0)) (hbp : Boxed w bp 30 (.slice a p.length cap)) :
    SeqStopsK Fence.wide n Tryz.prog 103 #[.pointer (some ⟨bc, 0, none⟩), .pointer (some ⟨bp, 0, none⟩)] (fun x : Int => #[Value.int .i64 x]) (Kp w0.heap.size [bp]) (fun ys => ys = upL p u0) (fun pre => pre <+: upL p u0) 6 w := fun l J Jx W hW _ _ hY h0 =>
  (up1_in n hn l bc bp B p a cap u0 hu0 hu1 h6 hsup w0 hp (fun x : Int => x) (fun j _ => (j : Int)) (fun _ _ => rfl) J Jx hY W (hw.trans (hW.mono hw.size)) ((hW.cell (p := ⟨bc, 0, none⟩) (cell_lt hbc)).trans hbc) ((hW.block bp hbp.lt).trans hbp) h0).mono
    (fun e W' h => by simpa using h)
/-- The same, each of them a class that is there. -/
theorem up_stopsC (n : Nat) (hn : 1 ≤ n) (bc bp B : Nat) (p : Prg) (a : Option Addr) (cap : Nat) (u0 : Int) (hu0 : -1 ≤ u0) (hu1 : u0 < (p.length : Int)) (h6 : p.length ≤ 6) (hsup : SupOk p p.length) (w0 w : World) (hp : SK front B w0 (.slice a p.length cap) p) (hw : Below w0.heap.size w0 w) (hbc : w.cell? ⟨bc, 0, none⟩ = some (.int .i64 u0)) (hbp : Boxed w bp 30 (.slice a p.length cap)) :
    SeqStopsK Fence.wide n Tryz.prog 103 #[.pointer (some ⟨bc, 0, none⟩), .pointer (some ⟨bp, 0, none⟩)] (fun x : Cl p.length => #[Value.int .i64 x.1]) (Kp w0.heap.size [bp]) (fun ys => vals ys = upL p u0) (fun pre => vals pre <+: upL p u0) 6 w := fun l J Jx W hW _ _ hY h0 =>
  up1_in n hn l bc bp B p a cap u0 hu0 hu1 h6 hsup w0 hp (fun x : Cl p.length => x.1) (fun j hj => ⟨(j : Int), by omega, by omega⟩) (fun _ _ => rfl) J Jx hY W (hw.trans (hW.mono hw.size)) ((hW.cell (p := ⟨bc, 0, none⟩) (cell_lt hbc)).trans hbc) ((hW.block bp hbp.lt).trans hbp) h0
end Pg
end Go.Proofs.YtinanjjhkddikaaGreat
