/- Ranges over functions: what a round keeps; regions that draw their order in a round; whole arrays in a round; marks of rounds behind one another. -/
import Derived.Test.YtffkkhaiedhaiaaJLo0
import Derived.RangeFuncNested
import Derived.RangeFuncBound
import Derived.RangeFuncCalls
import Derived.RangeFuncLeaves
import Derived.Shelf.Abstract
import Derived.Shelf.RegionOpen
import Derived.WalkKit
import Derived.OwnWalkIn
import Derived.TacticsInMore
import Derived.LoopNIn
import Derived.LoopIn
import Derived.Deep.RegionHeld3
import Derived.OrdersIn
import Derived.Deep.MidRow
import Derived.Test.YtffkkhaiedhaiaaJLv3
import Derived.Sort.LoopGhostIn
namespace Go.Proofs.Ytffkkhaiedhaiaa
namespace Pg
open Go.ChangeShapes Go.WideShapes Go.ChangeAt Go.RowKit Go.Shelf St
attribute [local go_sem] Oper.semAt_some

/-- Nothing below n₀ has turned, nor has one of these blocks. -/
def Kp (n₀ : Nat) (bs : List Nat) (W W' : World) : Prop := Below n₀ W W' ∧ ∀ b ∈ bs, b < W.heap.size → W'.heap[b]? = W.heap[b]?
theorem Kp.refl (n₀ : Nat) (bs : List Nat) (W : World) : Kp n₀ bs W W := ⟨Below.refl _ _, fun _ _ _ => rfl⟩
theorem kp_t {n₀ : Nat} {bs : List Nat} {A B C : World} (h : Kp n₀ bs A B) (k : Kp n₀ bs B C) : Kp n₀ bs A C :=
  ⟨h.1.trans k.1, fun b hb hl => (k.2 b hb (Nat.lt_of_lt_of_le hl h.1.size)).trans (h.2 b hb hl)⟩
theorem kp_b {n₀ : Nat} {bs : List Nat} {w : World} (hn : n₀ ≤ w.heap.size) (hbs : ∀ b ∈ bs, b < w.heap.size) (W : World) (l : Nat) (o o' : Obj) (hl : w.heap.size ≤ l) (h : W.heap[l]? = some o) (h1 : o.isCells = false) (h2 : o.isWalk = false) : Kp n₀ bs W (W.putObj l o') :=
  ⟨belowK_b hn W l o o' hl h h1 h2, fun b hb _ => World.putObj_heap_other (by have := hbs b hb; omega)⟩
theorem Kp.on {n₀ : Nat} {bs : List Nat} {W W' : World} (h : Below W.heap.size W W') (hn : n₀ ≤ W.heap.size) : Kp n₀ bs W W' := ⟨h.mono hn, fun b _ hl => h.block b hl⟩
theorem Kp.set {n₀ b₀ i : Nat} {bs : List Nat} (W : World) (hn : n₀ ≤ b₀) (hb : b₀ ∉ bs) (v : Value) : Kp n₀ bs W (W.setCell ⟨b₀, i, none⟩ v) :=
  ⟨(Below.refl _ _).setCell (p := ⟨b₀, i, none⟩) hn v, fun b hbs _ => Below.heap_setCell W ⟨b₀, i, none⟩ v b (fun e => hb (by subst e; exact hbs))⟩
theorem Kp.boxed {n₀ b : Nat} {bs : List Nat} {W W' : World} {t : TypeId} {v : Value} (h : Kp n₀ bs W W') (hb : b ∈ bs) (hx : Boxed W b t v) : Boxed W' b t v := (h.2 b hb hx.lt).trans hx
theorem keeps_of {W W' : World} (h : Below W.heap.size W W') : KeepsOthers W W' := KeepsOthers.of_grownBy (row := none) ⟨h.os, h.tape, h.output, h.size, fun k hk _ => h.block k hk⟩ (fun _ _ e => by cases e)

theorem Cells.keptBy {w w' : World} {row : Option Nat} {k : Nat} {vs : List Value} (h : Cells w k vs) (hg : w.grownBy w' row) (hr : ∀ r, row = some r → ∃ o : Obj, w.heap[r]? = some o ∧ o.isCells = false) : Cells w' k vs := fun i x hx => by
  obtain ⟨h1, h2⟩ := h i x hx
  exact ⟨cell_kept h1 hg hr, (frozen_kept h1 hg hr).trans h2⟩
theorem wpListIn_load_mid {F : Fence} {n : Nat} {P : Program} {ops : Array Oper} {rest : List Oper} {op : Oper} {a : Act} {w : World} {Q : Exit → Act → World → Prop} (hgd : op.guard = none) (ty : TypeId) (x : Operand) (ho : op.op = .load ty x)
    (b o : Nat) (hx : a.eval x = .pointer (some ⟨b, o, none⟩)) (cs : List Value) (d : TypeDesc) (hc : w.rangeAt b o cs)
    (hu : P.underlying ty = some d) (hd : d.isRow = true) (hi : (P.info? ty).map (·.size) = some cs.length)
    (h : wpListIn F n P ops Q rest (a.put op.dst (.agg cs.toArray)) w) : wpListIn F n P ops Q (op :: rest) a w := by
  refine wpListIn_plain hgd fun K hK => ?_
  unfold Oper.wpIn
  refine ⟨?_, ?_⟩
  · simp [Oper.about, ho]
  · rw [Oper.semAt_plain F _ _ (by rw [ho]; intro c hc'; cases hc')]
    unfold execOp
    simp only [ho, hx, Instr.loadAt, Instr.sureAddr, Sem.run_bind, Sem.run_pure, Result.andThen_ok, run_loadVar_mid w b o ty cs d hc hu hd hi]
    exact hK _ _ h
theorem wpListIn_store_mid {F : Fence} {n : Nat} {P : Program} {ops : Array Oper} {rest : List Oper} {op : Oper} {a : Act} {w : World} {Q : Exit → Act → World → Prop} (hgd : op.guard = none) (ty : TypeId) (x y : Operand) (ho : op.op = .store ty x y)
    (b o : Nat) (cells : Array Value) (hx : a.eval x = .pointer (some ⟨b, o, none⟩)) (hy : a.eval y = .agg cells)
    (ht : w.there b o cells.size) (hi : (P.info? ty).map (·.size) = some cells.size) (h1 : cells.all (·.oneCell') = true)
    (h : wpListIn F n P ops Q rest (a.put op.dst undef) (w.setCells b o cells.toList)) : wpListIn F n P ops Q (op :: rest) a w := by
  refine wpListIn_plain hgd fun K hK => ?_
  unfold Oper.wpIn
  refine ⟨?_, ?_⟩
  · simp [Oper.about, ho]
  · rw [Oper.semAt_plain F _ _ (by rw [ho]; intro c hc'; cases hc')]
    unfold execOp
    simp only [ho, hx, hy, Instr.storeAt, Instr.sureAddr, Sem.run_bind, Sem.run_pure, Result.andThen_ok, run_storeVar_mid w b o ty cells ht hi h1]
    exact hK _ _ h
/-- Marks of rounds that are over, each of another loop. -/
def marks (ds : List Nat) : List Deferred := ds.map fun D => { target := .collected D, args := #[] }
def Colls (B : Nat) (W : World) (ds : List Nat) : Prop := ds.Nodup ∧ ∀ D ∈ ds, B ≤ D ∧ W.heap[D]? = some (.deferred (some []))
theorem Colls.nil (B : Nat) (W : World) : Colls B W [] := ⟨List.nodup_nil, fun D h => by simp at h⟩
theorem Colls.on {B : Nat} {W W' : World} {ds : List Nat} (h : Colls B W ds) (hb : ∀ D ∈ ds, W'.heap[D]? = W.heap[D]?) : Colls B W' ds := ⟨h.1, fun D hD => ⟨(h.2 D hD).1, (hb D hD).trans (h.2 D hD).2⟩⟩
theorem Colls.lt {B : Nat} {W : World} {ds : List Nat} (h : Colls B W ds) {D : Nat} (hD : D ∈ ds) : D < W.heap.size := (Array.getElem?_eq_some_iff.1 (h.2 D hD).2).1
theorem Colls.below {B : Nat} {W W' : World} {ds : List Nat} (h : Colls B W ds) (hb : Below W.heap.size W W') : Colls B W' ds := h.on fun D hD => hb.block D (h.lt hD)
theorem leaves_colls {F : Fence} {n : Nat} {P : Program} {fn : Func} {tmps : Array Value} {R : Ending → World → Prop} (B : Nat) : ∀ (ds : List Nat) (W : World), Colls B W ds → (∀ W', Below B W W' → (∀ b, b ∉ ds → W'.heap[b]? = W.heap[b]?) → LeavesIn F n P fn tmps R [] .returning W') → LeavesInM F n P fn tmps R (marks ds) .returning W
  | [], W, _, h => h W (Below.refl _ _) fun _ _ => rfl
  | D :: ds, W, hc, h => by
    have hD := hc.2 D List.mem_cons_self
    have hn := List.nodup_cons.1 hc.1
    refine ⟨by simp, .inl ⟨D, _, rfl, run_takeDeferred hD.2, ?_⟩⟩
    have hbl : Below B W (W.putObj D (.deferred none)) := (Below.refl B W).grown (grownBy_putObj' W D _) (by have := hc.lt (D := D) List.mem_cons_self; omega) (fun k e => by cases e; exact hD.1)
    refine leaves_colls B ds _ ⟨hn.2, fun E hE => ⟨(hc.2 E (List.mem_cons_of_mem _ hE)).1, ?_⟩⟩ fun W' hb' hx => ?_
    · rw [World.putObj_heap_other (by rintro rfl; exact hn.1 hE)]
      exact (hc.2 E (List.mem_cons_of_mem _ hE)).2
    · refine h W' (hbl.trans hb') fun b hb => ?_
      rw [hx b fun e => hb (List.mem_cons_of_mem _ e), World.putObj_heap_other (by rintro rfl; exact hb List.mem_cons_self)]
end Pg
end Go.Proofs.Ytffkkhaiedhaiaa

/- Contract: what is live, as the program finds it: rounds from the last step on, till nothing changes. -/
namespace Go.Proofs.Ytffkkhaiedhaiaa
namespace Pg
open Go.ChangeShapes Go.WideShapes Go.ChangeAt Go.RowKit Go.Shelf St
attribute [local go_sem] Oper.semAt_some

/-- A round from the last step on. -/
def swpL (code : List Tx.Ins) (L : Lvs) (js : List Nat) : Lvs := js.foldl (fun L j => setL L j (liveF code j L)) L
theorem swpL_snoc (code : List Tx.Ins) (L : Lvs) (js : List Nat) (j : Nat) : swpL code L (js ++ [j]) = setL (swpL code L js) j (liveF code j (swpL code L js)) := by
  unfold swpL; rw [List.foldl_append]; rfl
theorem swpL_end {code : List Tx.Ins} {B : Lvs} : ∀ (n : Nat) {L : Lvs}, SwL code B L n → n ≤ code.length → SwL code B (swpL code L (List.range n).reverse) 0
  | 0, L, h, _ => h
  | n + 1, L, h, hn => by
    have := swpL_end n (h.step (by omega)) (by omega)
    rw [List.range_succ, List.reverse_append]
    exact this
theorem row_blk {w w' : World} {g o : Nat} {l : List Tx.Ins} (h : Row w g o l) (hb : w'.heap[g]? = w.heap[g]?) : Row w' g o l := fun j x hj => by
  obtain ⟨h0, h1, h2⟩ := h j x hj
  exact ⟨(World.cell?_of_block (a := ⟨g, o + j * 3, none⟩) hb).trans h0, (World.cell?_of_block (a := ⟨g, o + j * 3 + 1, none⟩) hb).trans h1, (World.cell?_of_block (a := ⟨g, o + j * 3 + 2, none⟩) hb).trans h2⟩
theorem wpListIn_alloc_chi {F : Fence} {m : Nat} {w : World} {ops : Array Oper} {rest : List Oper} {o : Oper} {a : Act} {Q : Exit → Act → World → Prop} (hgd : o.guard = none) (t : TypeId) (ho : o.op = .alloc t) (n : Nat)
    (hz : (Try.prog.info? t).map (fun i => (i.zero, i.size)) = some (some (.agg (chi n fun _ => false).toArray), n))
    (h : wpListIn F m Try.prog ops Q rest (a.put o.dst (.pointer (some ⟨w.heap.size, 0, none⟩))) (w.alloc (.cells (chi n fun _ => false).toArray t))) : wpListIn F m Try.prog ops Q (o :: rest) a w := by
  refine wpListIn_plain hgd fun K hK => ?_
  have hz1 := (zero_of_info hz).1 w
  unfold Oper.wpIn
  refine ⟨?_, ?_⟩
  · simp [Oper.about, ho]
  · rw [Oper.semAt_plain F _ _ (by rw [ho]; intro c hc'; cases hc')]
    unfold execOp
    simp [ho, Instr.alloc, hz1, Sem.run_bind, newVar, go_sem]
    exact hK _ _ h

theorem KeepsOthers.setCells {b : Nat} : ∀ (vs : List Value) (o : Nat) {W W' : World}, KeepsOthers W W' → KeepsOthers W (W'.setCells b o vs)
  | [], _, _, _, h => h
  | _ :: r, o, _, _, h => KeepsOthers.setCells r (o + 1) (h.trans (KeepsOthers.setCell _ _ _))
theorem Cells.putFar' {w : World} {k b : Nat} {vs : List Value} (h : Cells w k vs) (o : Nat) (us : List Value) (hn : k ≠ b) : Cells (w.setCells b o us) k vs := fun i x hx => by
  have h1 := World.rangeAt_setCells_apart h.range b o us (.inl hn) i x hx
  rw [Nat.zero_add] at h1
  exact ⟨h1, by rw [World.frozen?_setCells]; exact (h i x hx).2⟩
theorem Cells.putMid {w : World} {b k : Nat} {L : Lvs} (h : Cells w b (chi 320 (flatP L))) (hk : k < 40) (r : Nat → Bool) : Cells (w.setCells b (k * 8) (chi 8 r)) b (chi 320 (flatP (setL L k r))) := fun q x hx => by
  have hq : q < 320 := by have := (List.getElem?_eq_some_iff.1 hx).1; rwa [chi_len] at this
  rw [chi_at _ hq] at hx
  injection hx with hx
  subst hx
  obtain ⟨h1, h2⟩ := h q _ (chi_at _ hq)
  refine ⟨?_, by rw [World.frozen?_setCells]; exact h2⟩
  rw [flat_set]
  split
  · rename_i e
    have ht : w.there b (k * 8) (chi 8 r).length := fun j hj => by
      rw [chi_len] at hj
      obtain ⟨g1, g2⟩ := h (k * 8 + j) _ (chi_at _ (by omega))
      exact ⟨by rw [g1]; rfl, g2⟩
    have := World.rangeAt_setCells_same w b (k * 8) (chi 8 r) ht (q % 8) _ (chi_at r (Nat.mod_lt _ (by decide)))
    rw [show k * 8 + q % 8 = q by omega] at this
    exact this
  · rename_i e
    rw [World.cell?_setCells_out b (chi 8 r) (k * 8) w ⟨b, q, none⟩ (fun _ _ => by
      rw [chi_len]
      show q < k * 8 ∨ k * 8 + 8 ≤ q
      omega)]
    exact h1
theorem flat_there {w : World} {b k n : Nat} {L : Lvs} (h : Cells w b (chi 320 (flatP L))) (hk : k < 40) (hn : n = 8) : w.there b (k * 8) n := fun j hj => by
  obtain ⟨g1, g2⟩ := h (k * 8 + j) _ (chi_at _ (by omega))
  exact ⟨by rw [g1]; rfl, g2⟩
/-- Two arrays of sets of locals, held against each other. -/
def alikeV (P Q : Nat → Bool) : Bool := (List.range 40).all fun i => alike 8 (fun v => P (i * 8 + v)) (fun v => Q (i * 8 + v))
theorem alikeV_iff {P Q : Nat → Bool} : alikeV P Q = true ↔ ∀ q, q < 320 → P q = Q q := by
  unfold alikeV
  rw [List.all_eq_true]
  constructor
  · intro h q hq
    have := alike_iff.1 (h (q / 8) (List.mem_range.2 (by omega))) (q % 8) (Nat.mod_lt _ (by decide))
    rw [show q / 8 * 8 + q % 8 = q by omega] at this
    exact this
  · intro h i hi
    exact alike_iff.2 fun v hv => h _ (by have := List.mem_range.1 hi; omega)
theorem cellsL : Try.prog.cellsOf 89 = 8 := by kernel_rfl
theorem infoLi : (Try.prog.info? 89).map (fun i => (i.zero, i.size, i.bytes)) = some (some (.agg (chi 8 fun _ => false).toArray), 8, 8) := by kernel_rfl
theorem run_part8 (P : Nat → Bool) {i : Nat} (hi : i < 40) (w : World) : (part 89 (chi 320 P).toArray (i * 8)).run Try.prog w = .ok (.agg (chi 8 fun v => P (i * 8 + v)).toArray) w := by
  have hx : List.take 8 (List.drop (i * 8) (chi 320 P)) = chi 8 fun v => P (i * 8 + v) := by
    apply List.ext_getElem?
    intro j
    rw [List.getElem?_take]
    by_cases hj : j < 8
    · rw [if_pos hj, List.getElem?_drop, chi_at _ hj, chi_at _ (by omega)]
    · rw [if_neg hj, List.getElem?_eq_none (by rw [chi_len]; omega)]
  simp [part, isAgg, Sem.run_bind, run_underlying Try.underlying89]
  exact hx
theorem run_itemsV (P Q : Nat → Bool) (d : Nat) (w : World) : ∀ is : List Nat, (∀ i ∈ is, i < 40) → (Op.eqItems (d + 1 + 1) 89 8 (chi 320 P).toArray (chi 320 Q).toArray is).run Try.prog w = .ok (is.all fun i => alike 8 (fun v => P (i * 8 + v)) (fun v => Q (i * 8 + v))) w
  | [], _ => by simp [Op.eqItems]
  | j :: is, h => by
    obtain ⟨i0, hi, _, _, _⟩ := info_parts infoB
    have hj := h j List.mem_cons_self
    have ih := run_itemsV P Q d w is fun i hi => h i (List.mem_cons_of_mem _ hi)
    have he : (Op.equalIn (d + 1 + 1) 89 (.agg (chi 8 fun v => P (j * 8 + v)).toArray) (.agg (chi 8 fun v => Q (j * 8 + v)).toArray)).run Try.prog w = .ok (alike 8 (fun v => P (j * 8 + v)) (fun v => Q (j * 8 + v))) w := by
      rw [run_equalIn_array w (d + 1) _ _ Try.underlying89 hi, cellsB, run_items _ _ d w _ (fun j hj => List.mem_range.1 hj)]
      rfl
    simp only [Op.eqItems, Sem.run_bind, run_part8 P hj, run_part8 Q hj, Result.andThen_ok, he, List.all_cons]
    cases alike 8 (fun v => P (j * 8 + v)) (fun v => Q (j * 8 + v))
    · simp
    · simpa using ih
theorem run_equal_live (P Q : Nat → Bool) (w : World) :
    (Op.equalIn 10000 91 (.agg (chi 320 P).toArray) (.agg (chi 320 Q).toArray)).run Try.prog w = .ok (alikeV P Q) w := by
  obtain ⟨i0, hi, _, _, _⟩ := info_parts infoLi
  rw [run_equalIn_array w 9999 _ _ Try.underlying91 hi, cellsL, run_itemsV P Q 9997 w _ (fun j hj => List.mem_range.1 hj)]
  rfl

set_option maxHeartbeats 400000 in
theorem bk_in (n : Nat) (a : Option Addr) (len cap : Nat) (w : World) :
    CallsIn Fence.wide n Try.prog 94 #[.slice a len cap] w fun e w' => e = .returned (.func (.func 109) #[] #[.pointer (some ⟨w.heap.size, 0, none⟩)]) ∧ w' = w.alloc (.cells #[.slice a len cap] 24) := by
  refine callsIn_of_wp Try.func94 rfl trivial ?_ rfl
  simp only [Try.ntmps94, List.size_toArray, List.length_cons, List.length_nil, Nat.reduceAdd, Nat.reduceSub, Array.replicate_succ, Array.replicate_zero, List.push_toArray, List.append_toArray, List.nil_append, List.cons_append]
  gi_wp2
  go_ret
  exact ⟨rfl, rfl⟩

set_option maxRecDepth 100000 in
set_option maxHeartbeats 1000000 in
theorem bk1_in {α : Type} (n : Nat) (hn : 1 ≤ n) (l bw z cz n₀ : Nat) (code : List Tx.Ins) (h16 : code.length ≤ 1000) (en : α → Nat) (mk : ∀ j : Nat, j < code.length → α) (hen : ∀ j hj, en (mk j hj) = j) (J Jx : List α → World → Prop)
    (hY : ∀ pre x W, J pre W → pre.length < code.length → YieldAt Fence.wide (n - 1) Try.prog l #[.int .i64 (en x : Int), .agg #[.int .i64 (insF code (en x)).1, .int .i64 (insF code (en x)).2.1, .int .i64 (insF code (en x)).2.2]] W fun e W' =>
      (e = .returned (.bool true) ∧ J (pre ++ [x]) W' ∧ Kp n₀ [bw, z] W W') ∨ (e = .returned (.bool false) ∧ Jx (pre ++ [x]) W'))
    (W : World) (hbw : Boxed W bw 24 (.slice (some ⟨z, 0, none⟩) code.length cz)) (hz : Row W z 0 code) (hzl : z < W.heap.size) (h0 : J [] W) :
    CallsIn Fence.wide n Try.prog 109 #[.func (.yield l) #[] #[], .pointer (some ⟨bw, 0, none⟩)] W fun e W' => (∃ v, e = .returned v) ∧
      ((∃ ys, ys.map en = (List.range code.length).reverse ∧ J ys W') ∨ (∃ pre, True ∧ Jx pre W')) := by
  have p0 := hbw.cell
  have hlen : wrap64 ((code.length : Int) - 1) = (code.length : Int) - 1 := by unfold wrap64; omega
  refine callsIn_of_wp Try.func109 rfl trivial ?_ rfl
  simp only [Try.ntmps109, List.size_toArray, List.length_cons, List.length_nil, Nat.reduceAdd, Nat.reduceSub, Array.replicate_succ, Array.replicate_zero, List.push_toArray, List.append_toArray, List.nil_append, List.cons_append]
  gi_wp2
  gi_loopw [3] (fun v wr => ∃ (pre : List α) (m : Nat), v = .int .i64 ((m : Int) - 1) ∧ m ≤ code.length ∧ Hid (pre.map en = ((List.range code.length).drop m).reverse) ∧ J pre wr ∧ Boxed wr bw 24 (.slice (some ⟨z, 0, none⟩) code.length cz) ∧ Hid (Row wr z 0 code ∧ z < wr.heap.size)) (fun v _ => (intOf v + 1).toNat)
  case atStart => exact ⟨[], code.length, by first | rfl | rw [hlen], Nat.le_refl _, by show _ = _; simp, h0, hbw, hz, hzl⟩
  case round =>
    clear p0 hbw hz hzl h0 hlen
    obtain ⟨pre, m, rfl, hm, hx, hJ, hbx, hrow⟩ := hrel
    cases m with
    | zero =>
      have HE : Hid (pre.map en = (List.range code.length).reverse) := by show _ = _; rw [hx.out]; rfl
      clear hx
      gi_wp2
      go_end0
      exact ⟨⟨_, rfl⟩, .inl ⟨pre, HE.out, hJ⟩⟩
    | succ m =>
      have hml : m < code.length := by omega
      have hmr : m < (List.range code.length).length := by simpa using hml
      have em : ((m + 1 : Nat) : Int) - 1 = (m : Int) := by omega
      rw [em]
      have HX : Hid ((pre ++ [mk m hml]).map en = ((List.range code.length).drop m).reverse) := by
        show _ = _
        rw [List.drop_eq_getElem_cons hmr, List.reverse_cons, List.map_append, hx.out, List.map_cons, hen, List.getElem_range]; rfl
      have hpl : pre.length < code.length := by
        have := congrArg List.length hx.out
        simp at this
        omega
      obtain ⟨cx0, cx1, cx2⟩ := hrow.out.1 m _ (ins_is hml)
      simp only [Nat.zero_add] at cx0 cx1 cx2
      obtain ⟨fn, tmps, assign, body, hy, hR⟩ := hY pre (mk m hml) wr hJ hpl
      rw [hen] at hy
      generalize mk m hml = xm at *
      generalize insF code m = x at *
      have p0 := hbx.cell
      have hmi : (m : Int) < (code.length : Int) := by omega
      have hge : decide ((m : Int) ≥ 0) = true := by simp
      have hwr : wrap64 ((m : Int) - 1) = (m : Int) - 1 := by unfold wrap64; omega
      clear hx hm em hpl hmr
      gi_wp2
      refine hR.mono ?_
      rintro e W3 (⟨rfl, hJ3, hk3⟩ | ⟨rfl, hJx3⟩)
      · have hbx3 := hk3.boxed (by simp) hbx
        have hrow3 : Hid (Row W3 z 0 code ∧ z < W3.heap.size) := ⟨row_blk hrow.out.1 (hk3.2 z (by simp) hrow.out.2), Nat.lt_of_lt_of_le hrow.out.2 hk3.1.size⟩
        gi_wp2
        go_roundw
        case rel => exact ⟨pre ++ [xm], m, by first | rfl | rw [hwr], by omega, HX, hJ3, hbx3, hrow3⟩
        case measure => simp [intOf]
      · gi_wp2
        refine bodyPost_ret (results_none rfl _ _ _) rfl ?_
        exact ⟨⟨_, rfl⟩, .inr ⟨_, trivial, hJx3⟩⟩
abbrev Stp (code : List Tx.Ins) := { j : Nat // j < code.length }
theorem bk_stops (n : Nat) (hn : 1 ≤ n) (bw z cz n₀ : Nat) (code : List Tx.Ins) (h16 : code.length ≤ 1000) (w : World) (hbw : Boxed w bw 24 (.slice (some ⟨z, 0, none⟩) code.length cz)) (hz : Row w z 0 code) (hzl : z < w.heap.size) :
    SeqStopsK Fence.wide n Try.prog 109 #[.pointer (some ⟨bw, 0, none⟩)] (fun x : Stp code => #[Value.int .i64 (x.1 : Int), .agg #[.int .i64 (insF code x.1).1, .int .i64 (insF code x.1).2.1, .int .i64 (insF code x.1).2.2]]) (Kp n₀ [bw, z]) (fun ys => ys.map (·.1) = (List.range code.length).reverse) (fun _ => True) code.length w := fun l J Jx W hW _ _ hY h0 =>
  bk1_in n hn l bw z cz n₀ code h16 (fun x : Stp code => x.1) (fun j hj => ⟨j, hj⟩) (fun _ _ => rfl) J Jx hY W ((hW.block bw hbw.lt).trans hbw) (row_blk hz (hW.block z hzl)) (Nat.lt_of_lt_of_le hzl hW.size) h0

/-- What lies there in a round from the last step on: L as it began, those of js are done. -/
structure LvX (code : List Tx.Ins) (w : World) (g yc b4 : Nat) (ds : List Nat) (L : Lvs) (js : List Nat) (X : World) : Prop where
  c0 : Cells X w.heap.size [.slice (some ⟨g, 0, none⟩) code.length yc]
  c1 : Cells X (w.heap.size + 1) (chi 320 fun _ => false)
  c2 : Cells X (w.heap.size + 1 + 1) (chi 320 (flatP (swpL code L js)))
  c4 : Cells X b4 (chi 320 (flatP L))
  cl : Colls w.heap.size X ds
  bl : Below w.heap.size w X
theorem LvX.own {code : List Tx.Ins} {w : World} {g yc b4 : Nat} {ds : List Nat} {L : Lvs} {B : Nat} (hB : ∀ D ∈ ds, D < B) (hw : w.heap.size ≤ B) : OwnFrom B (fun (pre : List (Stp code)) X => LvX code w g yc b4 ds L (pre.map (·.1)) X) := fun s X X' row hs hg hr => by
  have hr' : ∀ r, row = some r → ∃ o : Obj, X.heap[r]? = some o ∧ o.isCells = false := fun r e => (hr r e).2
  refine ⟨hs.c0.keptBy hg hr', hs.c1.keptBy hg hr', hs.c2.keptBy hg hr', hs.c4.keptBy hg hr', hs.cl.on fun D hD => hg.block D (hs.cl.lt hD) (fun e => ?_), hs.bl.grown hg hs.bl.size (fun k e => Nat.le_trans hw (hr k e).1)⟩
  have := (hr D e.symm).1
  have := hB D hD
  omega
theorem LvX.step {code : List Tx.Ins} (h40 : code.length ≤ 40) {w : World} {g yc b4 : Nat} (h4 : w.heap.size + 1 + 1 < b4) {ds : List Nat} {L : Lvs} {js : List Nat} {X X1 : World} (h : LvX code w g yc b4 ds L js X) (hb : Below X.heap.size X X1) {j : Nat} (hj : j < code.length) :
    LvX code w g yc b4 ds L (js ++ [j]) (X1.setCells (w.heap.size + 1 + 1) (j * 8) (chi 8 (liveF code j (swpL code L js)))) := by
  have d2 := h.c2.on hb
  refine ⟨(h.c0.on hb).putFar' _ _ (by omega), (h.c1.on hb).putFar' _ _ (by omega), ?_, (h.c4.on hb).putFar' _ _ (by omega), (h.cl.below hb).on fun D hD => block_setCells (fun e => ?_) _ _ _, below_setCells (by omega) _ _ (below_over h.bl hb)⟩
  · rw [swpL_snoc]
    exact d2.putMid (by omega) _
  · subst e
    have h1 := ((h.cl.below hb).2 _ hD).2
    have h2 := (d2 0 _ (chi_at _ (by decide))).1
    simp [World.cell?, h1] at h2
set_option maxRecDepth 100000 in
set_option maxHeartbeats 4000000 in
theorem liveIn_at (g yc : Nat) (code : List Tx.Ins) (hok : Lay.codeOk code = true) (w : World) (hrow : Row w g 0 code) :
    Calls Try.prog 57 #[.slice (some ⟨g, 0, none⟩) code.length yc] w fun e w' => ∃ L : Lvs, e = .returned (.agg (chi 320 (flatP L)).toArray) ∧ (∀ k v, k < code.length → v < 8 → L k v = lvB code k v) ∧ Below w.heap.size w w' := by
  have hl40 := (Lay.ok_len hok).2
  have lg : g < w.heap.size := cell_lt (hrow 0 _ (ins_is (Lay.ok_len hok).1)).1
  have HR : Hid (Row w g 0 code) := hrow
  have HOK : Hid (Lay.codeOk code = true) := hok
  clear hrow hok
  refine (callsIn_wide (n := 4)).1 ?_
  refine callsIn_of_wp_marks Try.func57 rfl trivial ?_ rfl
  simp only [Try.ntmps57, List.size_toArray, List.length_cons, List.length_nil, Nat.reduceAdd, Nat.reduceSub, Array.replicate_succ, Array.replicate_zero, List.push_toArray, List.append_toArray, List.nil_append, List.cons_append]
  gi_wp2_with (with_reducible refine wpListIn_alloc_chi rfl 91 rfl 320 zeroV ?_)
  obtain ⟨W0, hW0⟩ : ∃ W0, W0 = ((w.alloc (.cells #[.slice (some ⟨g, 0, none⟩) code.length yc] 24)).alloc (.cells (chi 320 fun _ => false).toArray 91)).alloc (.cells (chi 320 fun _ => false).toArray 91) := ⟨_, rfl⟩
  have hb0 : Below w.heap.size w W0 := by rw [hW0]; exact (((Below.refl _ _).alloc (Nat.le_refl _) _).alloc (by simp) _).alloc (by simp; omega) _
  have C0 : Hid (Cells W0 w.heap.size [.slice (some ⟨g, 0, none⟩) code.length yc]) := by show Cells _ _ _; rw [hW0]; exact ((Cells.new w _ rfl _ _).alloc _).alloc _
  have C1 : Hid (Cells W0 (w.heap.size + 1) (chi 320 fun _ => false)) := by show Cells _ _ _; rw [hW0]; exact (Cells.new (w.alloc _) _ (by simp) _ _).alloc _
  have C2 : Hid (Cells W0 (w.heap.size + 1 + 1) (chi 320 fun _ => false)) := by show Cells _ _ _; rw [hW0]; exact Cells.new ((w.alloc _).alloc _) _ (by simp) _ _
  simp only [World.size_alloc]
  rw [← hW0]
  clear hW0
  refine wpIn_loop_ghost_k (fun n a W => ∃ (u4 u5 u6 u7 u8 u9 u10 u11 u12 u13 u14 u15 u16 u17 u18 u19 u20 : Value) (ds : List Nat) (L : Lvs), a = { tmps := #[.slice (some ⟨g, 0, none⟩) code.length yc, .pointer (some ⟨w.heap.size, 0, none⟩), .pointer (some ⟨w.heap.size + 1, 0, none⟩), .pointer (some ⟨w.heap.size + 1 + 1, 0, none⟩), u4, u5, u6, u7, u8, u9, u10, u11, u12, u13, u14, u15, u16, u17, u18, u19, u20], defers := marks ds } ∧ Hid (320 ≤ cntS 320 (flatP L) + n) ∧ Hid (LvI code L) ∧ Hid (Cells W w.heap.size [.slice (some ⟨g, 0, none⟩) code.length yc]) ∧ Hid (Cells W (w.heap.size + 1) (chi 320 fun _ => false)) ∧ Hid (Cells W (w.heap.size + 1 + 1) (chi 320 (flatP L))) ∧ Hid (Colls w.heap.size W ds) ∧ Below w.heap.size w W) 320 ?start ?round
  case start =>
    refine ⟨undef, undef, undef, undef, undef, undef, undef, undef, undef, undef, undef, undef, undef, undef, undef, undef, undef, [], fun _ _ => false, rfl, Nat.le_add_left _ _, ⟨fun k v _ _ h => by simp at h, fun G _ k v _ _ h => by simp at h⟩, C0.out, C1.out, C2.out, Colls.nil _ _, hb0⟩
  case round =>
    clear C0 C1 C2 hb0 W0
    rintro gk _ W ⟨u4, u5, u6, u7, u8, u9, u10, u11, u12, u13, u14, u15, u16, u17, u18, u19, u20, ds, L, rfl, hn, hlv, hc0, hc1, hc2, hcl, hb⟩ J KK hJ hKK
    have hz : w.heap.size + 1 + 1 < W.heap.size := hc2.out.lt' (by decide)
    obtain ⟨Y, hY⟩ : ∃ Y, Y = (W.alloc (.cells (chi 320 fun _ => false).toArray 91)).setCells W.heap.size 0 (chi 320 (flatP L)) := ⟨_, rfl⟩
    have CB : Hid (Cells (W.alloc (.cells (chi 320 fun _ => false).toArray 91)) W.heap.size (chi 320 fun _ => false)) := Cells.new W _ rfl _ _
    have hYs : Y.heap.size = W.heap.size + 1 := by rw [hY, size_setCells]; simp
    have hbY : Below W.heap.size W Y := by rw [hY]; exact below_setCells (Nat.le_refl _) _ _ ((Below.refl _ _).alloc (Nat.le_refl _) _)
    have CBY : Hid (Cells Y W.heap.size (chi 320 (flatP L))) := by show Cells _ _ _; rw [hY]; exact CB.out.put (by rw [chi_len, chi_len])
    have HPC : Hid (∀ v ∈ chi 320 (flatP L), v.oneCell' = true) := chi_one _ _
    have HPL : Hid ((chi 320 (flatP L)).length = 320) := chi_len _ _
    have p0 : Y.cell? ⟨w.heap.size, 0, none⟩ = some (.slice (some ⟨g, 0, none⟩) code.length yc) := (hc0.out.on hbY).g0.1
    rw [hY] at p0
    have HY : Hid (Y = (W.alloc (.cells (chi 320 fun _ => false).toArray 91)).setCells W.heap.size 0 (chi 320 (flatP L))) := hY
    clear hY
    have CC := hc2.out.range
    have CT : Hid ((W.alloc (.cells (chi 320 fun _ => false).toArray 91)).there W.heap.size 0 320) := CB.out.there (by rw [chi_len])
    generalize hcs : chi 320 (flatP L) = cs at *
    have HCS : Hid (chi 320 (flatP L) = cs) := hcs
    clear hcs
    gi_wp2_with (first
      | (with_reducible refine wpListIn_alloc_chi rfl 91 rfl 320 zeroV ?_)
      | (with_reducible refine wpListIn_load_mid rfl 91 (.tmp 3) rfl (w.heap.size + 1 + 1) 0 (by simp [Act.eval]) cs _ CC Try.underlying91 rfl (by rw [infoV, HPL.out]) ?_)
      | (with_reducible refine wpListIn_store_mid rfl 91 (.tmp 4) (.tmp 6) rfl W.heap.size 0 cs.toArray (by simp [Act.eval, Act.put]) (by simp [Act.eval, Act.put]) (by rw [show cs.toArray.size = 320 by simpa using HPL.out]; exact CT.out) (by rw [infoV]; simpa using HPL.out.symm) (all_oneCell_toArray HPC.out) ?_)
      | (refine ⟨trivial, ?_⟩; gi_at_call 94; refine (bk_in _ _ code.length yc _).mono ?_; rintro e w' ⟨rfl, rfl⟩))
    rw [← HY.out]
    clear HY p0 CC CT CB HPC
    obtain ⟨V, hV⟩ : ∃ V, V = Y.alloc (.cells #[.slice (some ⟨g, 0, none⟩) code.length yc] 24) := ⟨_, rfl⟩
    have hVs : V.heap.size = W.heap.size + 1 + 1 := by rw [hV]; simp [hYs]
    have hbV : Below W.heap.size W V := below_over hbY (by rw [hV]; exact (Below.refl _ _).alloc (Nat.le_refl _) _)
    have hYV : Below Y.heap.size Y V := by rw [hV]; exact (Below.refl _ _).alloc (Nat.le_refl _) _
    have hbw : Boxed V Y.heap.size 24 (.slice (some ⟨g, 0, none⟩) code.length yc) := by rw [hV]; exact Boxed.new Y _ _
    have hX0 : LvX code w g yc W.heap.size ds L [] V := ⟨hc0.out.on hbV, hc1.out.on hbV, by rw [show swpL code L [] = L from rfl, HCS.out]; exact hc2.out.on hbV, by rw [HCS.out]; exact CBY.out.on hYV, hcl.out.below hbV, below_over hb hbV⟩
    have HDS : Hid (∀ D ∈ ds, D < V.heap.size) := fun D hD => by have := hcl.out.lt hD; omega
    rw [← hV]
    clear hV
    have hrV : Row V g 0 code := HR.out.on hX0.bl
    have hgV : g < V.heap.size := by omega
    have HYS : Hid (Y.heap.size = W.heap.size + 1) := hYs
    have HVS : Hid (V.heap.size = W.heap.size + 1 + 1) := hVs
    have hk1 : w.heap.size ≤ V.heap.size := by omega
    have hk2 : ∀ b ∈ [Y.heap.size, g], b < V.heap.size := by simp; omega
    clear hYs hVs
    refine wpIn_rangeFunc_ownF rfl (show 1 ≤ 4 by omega) (gf := 109) (lb := #[.pointer (some ⟨Y.heap.size, 0, none⟩)]) rfl trivial (enters_of Try.func109 (by kernel_rfl) rfl)
      (bk_stops _ (by omega) Y.heap.size g yc w.heap.size code (by omega) V hbw hrV hgV) kp_t (kp_b hk1 hk2) (Below.refl _ _) (fun _ => rfl)
      (fun (pre : List (Stp code)) X => LvX code w g yc W.heap.size ds L (pre.map (·.1)) X)
      (fun _ _ _ => False)
      (LvX.own HDS.out hk1)
      (fun _ _ _ _ _ hs _ _ => hs)
      hX0
      (fun x => { tmps := #[.slice (some ⟨g, 0, none⟩) code.length yc, .pointer (some ⟨w.heap.size, 0, none⟩), .pointer (some ⟨w.heap.size + 1, 0, none⟩), .pointer (some ⟨w.heap.size + 1 + 1, 0, none⟩), .pointer (some ⟨W.heap.size, 0, none⟩), .int .i64 (x.1 : Int), .agg cs.toArray, .slice (some ⟨g, 0, none⟩) code.length yc, .func (.func 109) #[] #[.pointer (some ⟨Y.heap.size, 0, none⟩)], .int .i64 (x.1 : Int), .agg #[.int .i64 (insF code x.1).1, .int .i64 (insF code x.1).2.1, .int .i64 (insF code x.1).2.2], u11, u12, u13, u14, u15, u16, u17, u18, u19, u20], defers := [] }) ?assign ?body ?done ?stop
    case assign =>
      intro l x X K hK
      gi_wp2
      exact hK
    case body =>
      rintro l pre ⟨j, hj⟩ X hX _
      dsimp only
      have HX : Hid (LvX code w g yc W.heap.size ds L (pre.map (·.1)) X) := hX
      have HST : Hid (∀ X1, Below X.heap.size X X1 → LvX code w g yc W.heap.size ds L ((pre ++ [(⟨j, hj⟩ : Stp code)]).map (·.1)) (X1.setCells (w.heap.size + 1 + 1) (j * 8) (chi 8 (liveF code j (swpL code L (pre.map (·.1))))))) := fun X1 h1 => by
        rw [List.map_append]
        exact hX.step hl40 hz h1 hj
      have p0 := hX.c0.g0.1
      have CC := hX.c2.range
      have HRX : Hid (Row X g 0 code) := HR.out.on hX.bl
      have HCM : Hid (Cells X (w.heap.size + 1 + 1) (chi 320 (flatP (swpL code L (pre.map (·.1)))))) := hX.c2
      have hwX : w.heap.size ≤ X.heap.size := hX.bl.size
      generalize swpL code L (pre.map (·.1)) = M at *
      clear hX
      have hji : (j : Int) < 40 := by omega
      gi_wp2_with (with_reducible refine wpListIn_load_mid rfl 91 (.tmp 3) rfl (w.heap.size + 1 + 1) 0 (by simp [Act.eval]) (chi 320 (flatP M)) _ CC Try.underlying91 rfl (by rw [infoV, chi_len]) ?_)
      refine ⟨trivial, ?_⟩
      refine (CallsIn.inRound l (callsIn_wide.2 (liveAhead_at g yc code HOK.out j hj M X HRX.out))).mono ?_
      rintro e X1 ⟨rfl, hb1⟩
      have HE := HST.out X1 hb1
      have CT : Hid (X1.there (w.heap.size + 1 + 1) (j * 8) 8) := flat_there (HCM.out.on hb1) (by omega) rfl
      have HK1 : Hid (KeepsOthers X (X1.setCells (w.heap.size + 1 + 1) (j * 8) (chi 8 (liveF code j M)))) := KeepsOthers.setCells _ _ (keeps_of hb1)
      have HK2 : Hid (Kp w.heap.size [Y.heap.size, g] X (X1.setCells (w.heap.size + 1 + 1) (j * 8) (chi 8 (liveF code j M)))) := ⟨below_setCells (by omega) _ _ (hb1.mono hwX), fun b hb' hl => by
        rw [block_setCells (by
          have := HYS.out
          simp at hb'
          rcases hb' with rfl | rfl <;> omega)]
        exact hb1.block b hl⟩
      have HEE : Hid (LvX code w g yc W.heap.size ds L ((pre ++ [(⟨j, hj⟩ : Stp code)]).map (·.1)) (X1.setCells (w.heap.size + 1 + 1) (j * 8) (chi 8 (liveF code j M)))) := HE
      have HL8 : Hid ((chi 8 (liveF code j M)).length = 8) := chi_len _ _
      have HO8 : Hid (∀ v ∈ chi 8 (liveF code j M), v.oneCell' = true) := chi_one _ _
      clear HE HST HCM HX CC p0 hb1
      generalize chi 8 (liveF code j M) = row at *
      gi_wp2_with (with_reducible refine wpListIn_store_mid rfl 89 (.tmp 16) (.tmp 15) rfl (w.heap.size + 1 + 1) (j * 8) row.toArray (by simp [Act.eval]) (by simp [Act.eval]) (by rw [show row.toArray.size = 8 by simpa using HL8.out]; exact CT.out) (by rw [infoL]; simpa using HL8.out.symm) (all_oneCell_toArray HO8.out) ?_)
      exact ⟨HK1.out, HK2.out, HEE.out⟩
    case done =>
      rintro D ys X hD hys hX hK
      have HSW : Hid (SwL code L (swpL code L (List.range code.length).reverse) 0) := swpL_end code.length (SwL.start hlv.out) (Nat.le_refl _)
      rw [hys] at hX
      have CM : Hid (Cells X (w.heap.size + 1 + 1) (chi 320 (flatP (swpL code L (List.range code.length).reverse)))) := hX.c2
      have C4 : Hid (Cells X W.heap.size cs) := by have h := hX.c4; rw [HCS.out] at h; exact h
      have C0 : Hid (Cells X w.heap.size [.slice (some ⟨g, 0, none⟩) code.length yc]) := hX.c0
      have C1 : Hid (Cells X (w.heap.size + 1) (chi 320 fun _ => false)) := hX.c1
      have hbX := hX.bl
      have HCO : Hid (Colls w.heap.size X (D :: ds)) := ⟨List.nodup_cons.2 ⟨fun e => by have := HDS.out D e; omega, hX.cl.1⟩, fun E hE => by
        rcases List.mem_cons.1 hE with rfl | hE
        · exact ⟨by omega, hK⟩
        · exact hX.cl.2 E hE⟩
      generalize swpL code L (List.range code.length).reverse = M at *
      have heq := run_equal_live (flatP M) (flatP L) X
      rw [HCS.out] at heq
      have hdef : ({ target := .collected D, args := #[] } : Deferred) :: marks ds = marks (D :: ds) := rfl
      dsimp only
      rw [hdef]
      clear hdef hX hK hys hX0 hbw hrV hgV hk1 hk2 hbV hYV hbY hc0 hc1 hc2 hcl hb CBY
      cases ha : alikeV (flatP M) (flatP L)
      · rw [ha] at heq
        have HLT : Hid (cntS 320 (flatP L) < cntS 320 (flatP M) ∧ cntS 320 (flatP M) ≤ 320) := ⟨cnt_lt (fun q _ => flat_le HSW.out.le q) (by
          cases h : alike 320 (flatP M) (flatP L)
          · rfl
          · rw [alikeV_iff.2 (alike_iff.1 h)] at ha; simp at ha), cnt_le _ _⟩
        have HLV : Hid (LvI code M) := HSW.out.lv
        clear ha HSW
        have CMR := CM.out.range
        have C4R := C4.out.range
        have HML : Hid ((chi 320 (flatP M)).length = 320) := chi_len _ _
        have HJM : Hid (∀ a', (∃ (u4 u5 u6 u7 u8 u9 u10 u11 u12 u13 u14 u15 u16 u17 u18 u19 u20 : Value), a' = { tmps := #[.slice (some ⟨g, 0, none⟩) code.length yc, .pointer (some ⟨w.heap.size, 0, none⟩), .pointer (some ⟨w.heap.size + 1, 0, none⟩), .pointer (some ⟨w.heap.size + 1 + 1, 0, none⟩), u4, u5, u6, u7, u8, u9, u10, u11, u12, u13, u14, u15, u16, u17, u18, u19, u20], defers := marks (D :: ds) }) → 320 ≤ cntS 320 (flatP M) + (gk - 1) → J (gk - 1) a' X) := fun a' ⟨u4, u5, u6, u7, u8, u9, u10, u11, u12, u13, u14, u15, u16, u17, u18, u19, u20, e⟩ h => hJ _ _ _ ⟨u4, u5, u6, u7, u8, u9, u10, u11, u12, u13, u14, u15, u16, u17, u18, u19, u20, D :: ds, M, e, h, HLV.out, C0.out, C1.out, CM.out, HCO.out, hbX⟩
        clear hJ
        generalize chi 320 (flatP M) = cm at *
        gi_wp2_with (first
          | (with_reducible refine wpListIn_load_mid rfl 91 (.tmp 3) rfl (w.heap.size + 1 + 1) 0 (by simp [Act.eval]) cm _ CMR Try.underlying91 rfl (by rw [infoV, HML.out]) ?_)
          | (with_reducible refine wpListIn_load_mid rfl 91 (.tmp 4) rfl W.heap.size 0 (by simp [Act.eval, Act.put]) cs _ C4R Try.underlying91 rfl (by rw [infoV, HPL.out]) ?_))
        refine Handed.intro (gk - 1) (by have := HLT.out; have := hn.out; omega) (HJM.out _ ⟨_, _, _, _, _, _, _, _, _, _, _, _, _, _, _, _, _, rfl⟩ (by have := HLT.out; have := hn.out; omega))
      · rw [ha] at heq
        have HFX : Hid (∀ k v, k < code.length → v < 8 → M k v = lvB code k v) := fun k v hk hv => live_end HSW.out.lv (HSW.out.fix fun j u hj hu => by
          have := alikeV_iff.1 ha (j * 8 + u) (by omega)
          rwa [flat_at _ _ _ hu, flat_at _ _ _ hu] at this) hk hv
        clear ha HSW hJ hKK
        have CMR := CM.out.range
        have C4R := C4.out.range
        have HML : Hid ((chi 320 (flatP M)).length = 320) := chi_len _ _
        have HMO : Hid (∀ v ∈ chi 320 (flatP M), v.oneCell' = true) := chi_one _ _
        have CT : Hid (X.there (w.heap.size + 1) 0 320) := C1.out.there (by rw [chi_len])
        have CE : Hid (Cells (X.setCells (w.heap.size + 1) 0 (chi 320 (flatP M))) (w.heap.size + 1) (chi 320 (flatP M))) := C1.out.put (by rw [chi_len, chi_len])
        have HN1 : Hid (∀ E ∈ D :: ds, E ≠ w.heap.size + 1) := fun E hE e => by
          subst e
          have h1 := (HCO.out.2 _ hE).2
          have h2 := (C1.out 0 _ (chi_at _ (by decide))).1
          simp [World.cell?, h1] at h2
        have HCE : Hid (Colls w.heap.size (X.setCells (w.heap.size + 1) 0 (chi 320 (flatP M))) (D :: ds)) := HCO.out.on fun E hE => block_setCells (HN1.out E hE) _ _ _
        have hbE : Below w.heap.size w (X.setCells (w.heap.size + 1) 0 (chi 320 (flatP M))) := below_setCells (by omega) _ _ hbX
        generalize hcm : chi 320 (flatP M) = cm at *
        have HCMM : Hid (chi 320 (flatP M) = cm) := hcm
        clear hcm
        gi_wp2_with (first
          | (with_reducible refine wpListIn_load_mid rfl 91 (.tmp 3) rfl (w.heap.size + 1 + 1) 0 (by simp [Act.eval]) cm _ CMR Try.underlying91 rfl (by rw [infoV, HML.out]) ?_)
          | (with_reducible refine wpListIn_load_mid rfl 91 (.tmp 4) rfl W.heap.size 0 (by simp [Act.eval, Act.put]) cs _ C4R Try.underlying91 rfl (by rw [infoV, HPL.out]) ?_)
          | (with_reducible refine wpListIn_store_mid rfl 91 (.tmp 2) (.tmp 20) rfl (w.heap.size + 1) 0 cm.toArray (by simp [Act.eval, Act.put]) (by simp [Act.eval, Act.put]) (by rw [show cm.toArray.size = 320 by simpa using HML.out]; exact CT.out) (by rw [infoV]; simpa using HML.out.symm) (all_oneCell_toArray HMO.out) ?_))
        (try simp only [Exit.inBlock, Exit.then])
        refine leaves_colls w.heap.size (D :: ds) _ HCE.out fun X' hb' hx' => ?_
        have CR : Cells X' (w.heap.size + 1) cm := fun i x hx => by
          obtain ⟨h1, h2⟩ := CE.out i x hx
          have hbk := hx' (w.heap.size + 1) fun e => HN1.out _ e rfl
          exact ⟨(World.cell?_of_block hbk).trans h1, (World.frozen?_of_block hbk).trans h2⟩
        exact ⟨_, ret_cell rfl rfl CR.range Try.underlying91 rfl (by rw [infoV, HML.out]), M, by rw [HCMM.out], HFX.out, hbE.trans hb'⟩
    case stop =>
      rintro D c pre X _ _ h _
      exact h.elim
end Pg
end Go.Proofs.Ytffkkhaiedhaiaa

/- Contracts: both sides' LiveIn. -/
namespace Go.Proofs.Ytffkkhaiedhaiaa
namespace Pg
open Go.ChangeShapes Go.WideShapes Go.ChangeAt Go.RowKit St

noncomputable def livL (l : List Tx.Ins) : List Int := (List.range l.length).map fun k => ((bn (lvB l k) 8 : Nat) : Int)
noncomputable def livA (l : List Tx.Ins) : List Int := if Lay.codeOk l then livL l else []
theorem livL_len (l : List Tx.Ins) : (livL l).length = l.length := by simp [livL]
theorem livL_at {l : List Tx.Ins} {k : Nat} (h : k < l.length) : (livL l)[k]? = some ((bn (lvB l k) 8 : Nat) : Int) := by simp [livL, h]
theorem livA_len (l : List Tx.Ins) : (livA l).length ≤ 41 := by
  unfold livA
  split
  · rename_i h
    have := (Lay.ok_len h).2
    rw [livL_len]; omega
  · simp

set_option maxRecDepth 100000 in
set_option maxHeartbeats 4000000 in
theorem implLiveIn (g cap : Nat) (l : List Tx.Ins) (hl : l.length ≤ 1048576) (w : World) (hr : Row w g 0 l) :
    Calls Try.prog 26 #[.slice (some ⟨g, 0, none⟩) l.length cap] w fun e w' => ∃ x, e = .returned x ∧ GInt w.heap.size w' x (livA l) ∧ Below w.heap.size w w' := by
  obtain ⟨i0, hif, hz0, hz1, hz2⟩ := info_parts infoN
  have HR : Hid (Row w g 0 l) := hr
  clear hr
  go_enter Try.func26, Try.ntmps26
  go_wp2_with fail
  refine (implCodeOk g cap l hl w HR.out).mono ?_
  rintro e w1 ⟨rfl, hb1⟩
  cases hok : Lay.codeOk l
  · have HE : Hid (livA l = []) := by show _ = _; simp [livA, hok]
    clear hok
    go_wp2
    go_ret
    exact ⟨_, rfl, by rw [HE.out]; exact ((grow_start w1).base' hb1.size).gint, hb1.alloc hb1.size _⟩
  · have HE : Hid (livA l = livL l) := by show _ = _; simp [livA, hok]
    have hl40 := (Lay.ok_len hok).2
    go_wp2_with fail
    refine (liveIn_at g cap l hok w1 (HR.out.on hb1)).mono ?_
    rintro e w2 ⟨L, rfl, hL, hb2⟩
    have hw2 : Below w.heap.size w w2 := below_over hb1 hb2
    have HLL : Hid (∀ k, k < l.length → bn (L k) 8 = bn (lvB l k) 8) := fun k hk => bn_eq.2 fun v hv => hL k v hk hv
    clear hb1 hb2 hL hok
    have C3 : Hid (Cells (w2.alloc (.cells (chi 320 fun _ => false).toArray 91)) w2.heap.size (chi 320 fun _ => false)) := Cells.new w2 _ rfl _ _
    obtain ⟨Y, hY⟩ : ∃ Y, Y = (w2.alloc (.cells (chi 320 fun _ => false).toArray 91)).setCells w2.heap.size 0 (chi 320 (flatP L)) := ⟨_, rfl⟩
    have CY : Hid (Cells Y w2.heap.size (chi 320 (flatP L))) := by show Cells _ _ _; rw [hY]; exact C3.out.put (by rw [chi_len, chi_len])
    have hwY : Below w.heap.size w Y := by rw [hY]; exact below_setCells hw2.size _ _ (hw2.alloc hw2.size _)
    have HY : Hid (Y = (w2.alloc (.cells (chi 320 fun _ => false).toArray 91)).setCells w2.heap.size 0 (chi 320 (flatP L))) := hY
    have CT : Hid ((w2.alloc (.cells (chi 320 fun _ => false).toArray 91)).there w2.heap.size 0 320) := C3.out.there (by rw [chi_len])
    have HML : Hid ((chi 320 (flatP L)).length = 320) := chi_len _ _
    have HMO : Hid (∀ v ∈ chi 320 (flatP L), v.oneCell' = true) := chi_one _ _
    clear hY C3
    generalize hcm : chi 320 (flatP L) = cm at *
    have HCM : Hid (chi 320 (flatP L) = cm) := hcm
    clear hcm
    have hz2' : w.heap.size ≤ w2.heap.size := hw2.size
    go_upto_region 4 with (first
      | (with_reducible refine wpList_alloc_chi rfl 91 rfl 320 zeroV ?_)
      | (with_reducible refine wpList_store_mid rfl 91 (.tmp 3) (.tmp 11) rfl w2.heap.size 0 cm.toArray (by simp [Act.eval, Act.put]) (by simp [Act.eval, Act.put]) (by rw [show cm.toArray.size = 320 by simpa using HML.out]; exact CT.out) (by rw [infoV]; simpa using HML.out.symm) (all_oneCell_toArray HMO.out) ?_))
    rw [← HY.out]
    rw [← HCM.out] at CY
    clear HY CT HML HMO HCM hw2
    go_wp2_with (at_make; refine wpList_make_full _ rfl _ _ 27 rfl Y.heap.size 2 i0 (.int .i64 0) 1 Try.underlying27 hif hz0 hz1 .i64 .i64 _ _ l.length rfl rfl rfl rfl (by rw [hz2]; omega) (by unfold maxLen; omega) (Nat.le_refl _) ?_; intro w3 hown3 hgrow3)
    have hroom := room_own hown3 (Nat.le_refl _)
    rw [Nat.mul_one] at hroom
    have hsz3 : Y.heap.size < w3.heap.size := made_lt hown3
    have hbY3 : Below Y.heap.size Y w3 := (Below.refl _ _).grown hgrow3 (Nat.le_refl _) (fun _ h => by simp at h)
    have hw3 : Below w.heap.size w w3 := below_over hwY hbY3
    have C33 : Hid (Cells w3 w2.heap.size (chi 320 (flatP L))) := CY.out.on hbY3
    have HYZ : Hid (w2.heap.size < Y.heap.size ∧ w.heap.size ≤ Y.heap.size) := ⟨CY.out.lt' (by decide), hwY.size⟩
    clear hown3 hgrow3 CY hbY3 hwY
    go_loopw [17] (fun i wr => ∃ k : Nat, k ≤ l.length ∧ i = .int .i64 k ∧ Hid (Room wr Y.heap.size l.length) ∧ Hid (IRow wr Y.heap.size 0 ((livL l).take k)) ∧ Hid (Cells wr w2.heap.size (chi 320 (flatP L))) ∧ Y.heap.size < wr.heap.size ∧ Below w.heap.size w wr) (fun i _ => l.length - (intOf i).toNat)
    case atStart => exact ⟨0, Nat.zero_le _, rfl, hroom, fun j x h => by simp at h, C33.out, hsz3, hw3⟩
    case round =>
      clear hroom C33 hsz3 hw3
      obtain ⟨k, hk, rfl, hrm, hrw, hc3, hsz, hb⟩ := hrel
      by_cases hlt : k < l.length
      · have hki : (k : Int) < (l.length : Int) := by omega
        have hk40 : (k : Int) < 40 := by omega
        have CR := flat_range hc3.out (show k < 40 by omega)
        go_wp2_with (with_reducible refine wpList_load_mid rfl 89 (.tmp 23) rfl w2.heap.size (k * 8) (by simp [Act.eval]) (chi 8 (L k)) _ CR Try.underlying89 rfl (by rw [infoL, chi_len]) ?_)
        refine (bits_at (L k) wr).mono ?_
        rintro e w4 ⟨rfl, hb4⟩
        have hw4 : Below w.heap.size w w4 := below_over hb hb4
        have hsz4 : Y.heap.size < w4.heap.size := Nat.lt_of_lt_of_le hsz hb4.size
        have C4 : Hid (Cells w4 w2.heap.size (chi 320 (flatP L))) := hc3.out.on hb4
        have RM : Hid (Room w4 Y.heap.size l.length) := hrm.out.on hb4
        have RW : Hid (IRow w4 Y.heap.size 0 ((livL l).take k)) := hrw.out.on hb4
        obtain ⟨⟨x0, d0⟩, f0⟩ := RM.out k hlt
        have hlk : k < (livL l).length := by rw [livL_len]; exact hlt
        have HN := irow_next hlk (by rw [livL_len]; exact RM.out) RW.out
        have hval : (livL l)[k] = ((bn (L k) 8 : Nat) : Int) := by
          have := livL_at hlt
          rw [List.getElem?_eq_getElem hlk] at this
          injection this with this
          rw [this, HLL.out k hlt]
        rw [hval] at HN
        have HNX : Hid (IRow (w4.setCell ⟨Y.heap.size, k, none⟩ (.int .i64 ((bn (L k) 8 : Nat) : Int))) Y.heap.size 0 ((livL l).take (k + 1))) := HN
        have C5 : Hid (Cells (w4.setCell ⟨Y.heap.size, k, none⟩ (.int .i64 ((bn (L k) 8 : Nat) : Int))) w2.heap.size (chi 320 (flatP L))) := C4.out.far _ _ (by have := HYZ.out; simp; omega)
        have hw5 : Below w.heap.size w (w4.setCell ⟨Y.heap.size, k, none⟩ (.int .i64 ((bn (L k) 8 : Nat) : Int))) := hw4.setCell (p := ⟨Y.heap.size, k, none⟩) HYZ.out.2 _
        clear HN hval hlk RW C4 hb4 hrm hrw hc3 hb CR hw4 hsz
        generalize ((bn (L k) 8 : Nat) : Int) = bv at *
        go_wp2
        go_roundw
        case rel => exact ⟨k + 1, by omega, by go_num, RM.out.set _ _, HNX.out, C5.out, by simpa using hsz4, hw5⟩
        case measure => simp [intOf]; omega
      · have hki : ¬ (k : Int) < (l.length : Int) := by omega
        have HG : Hid (GInt w.heap.size wr (.slice (some ⟨Y.heap.size, 0, none⟩) l.length l.length) (livL l)) := by
          refine ⟨Y.heap.size, l.length, by rw [livL_len], HYZ.out.2, hsz, ?_, by rw [livL_len]; exact hrm.out⟩
          have h := hrw.out
          rw [List.take_of_length_le (by rw [livL_len]; omega)] at h
          exact h
        clear hrm hrw hc3
        go_wp2
        go_ret
        exact ⟨_, rfl, by rw [HE.out]; exact HG.out, hb⟩
end Pg
end Go.Proofs.Ytffkkhaiedhaiaa
