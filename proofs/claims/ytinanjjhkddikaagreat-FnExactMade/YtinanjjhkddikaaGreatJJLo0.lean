/- Cells, rows of numbers that may grow, appends onto them, and what the specification does with lists that rise. -/
import Derived.Test.YtinanjjhkddikaaGreatJJFl0
import Derived.Deep.RegionLaw
import Derived.Laws.AppendOwnNone
import Derived.Maps.AppendAt
import Derived.Maps.OwnSet
import Derived.Maps.RangeWalk
import Derived.DeepKeys4
import Derived.Laws.OwnMore
import Derived.WalkSmall
import Derived.Deep.RegionHeld3
import Derived.Deep.DeepCutAuto
namespace Go.Proofs.YtinanjjhkddikaaGreat
namespace Pg
open Go.ChangeShapes Go.WideShapes Go.ChangeAt Go.RowKit St

/-- The first cells of a block, which may be written. -/
def Cells (w : World) (k : Nat) (vs : List Value) : Prop := ∀ i x, vs[i]? = some x → w.cell? ⟨k, i, none⟩ = some x ∧ w.frozen? ⟨k, i, none⟩ = false
theorem Cells.on {u w : World} {k : Nat} {vs : List Value} (h : Cells u k vs) (hb : Below u.heap.size u w) : Cells w k vs := fun i x hx => by
  obtain ⟨h1, h2⟩ := h i x hx
  have l : k < u.heap.size := cell_lt h1
  exact ⟨(hb.cell l).trans h1, (hb.frozen l).trans h2⟩
theorem Cells.new (w : World) (k : Nat) (hk : k = w.heap.size) (vs : List Value) (t : TypeId) : Cells (w.alloc (.cells vs.toArray t)) k vs := by
  subst hk
  intro i x hx
  exact ⟨by simp [go_sem, hx], by simp [go_sem]⟩
theorem Cells.alloc {w : World} {k : Nat} {vs : List Value} (h : Cells w k vs) (o : Obj) : Cells (w.alloc o) k vs := h.on ((Below.refl _ _).alloc (Nat.le_refl _) o)
theorem Cells.set {w : World} {k : Nat} {vs : List Value} (h : Cells w k vs) (i : Nat) (v : Value) : Cells (w.setCell ⟨k, i, none⟩ v) k (vs.set i v) := by
  intro j x hx
  rw [List.getElem?_set] at hx
  split at hx
  · rename_i e
    subst e
    split at hx
    · rename_i hl
      simp at hx
      subst hx
      obtain ⟨h1, h2⟩ := h i _ (List.getElem?_eq_getElem hl)
      exact ⟨World.cell?_setCell_same _ _ _ h1, by simpa using h2⟩
    · simp at hx
  · rename_i e
    obtain ⟨h1, h2⟩ := h j x hx
    exact ⟨(World.cell?_setCell_other _ _ _ _ (fun e' => e (congrArg Addr.off e'))).trans h1, by simpa using h2⟩
theorem Cells.g0 {w : World} {k : Nat} {a : Value} {l : List Value} (h : Cells w k (a :: l)) : w.cell? ⟨k, 0, none⟩ = some a ∧ w.frozen? ⟨k, 0, none⟩ = false := h 0 a rfl
theorem Cells.g1 {w : World} {k : Nat} {a b : Value} {l : List Value} (h : Cells w k (a :: b :: l)) : w.cell? ⟨k, 1, none⟩ = some b ∧ w.frozen? ⟨k, 1, none⟩ = false := h 1 b rfl
theorem Cells.g2 {w : World} {k : Nat} {a b c : Value} {l : List Value} (h : Cells w k (a :: b :: c :: l)) : w.cell? ⟨k, 2, none⟩ = some c ∧ w.frozen? ⟨k, 2, none⟩ = false := h 2 c rfl
theorem Cells.g3 {w : World} {k : Nat} {a b c d : Value} {l : List Value} (h : Cells w k (a :: b :: c :: d :: l)) : w.cell? ⟨k, 3, none⟩ = some d ∧ w.frozen? ⟨k, 3, none⟩ = false := h 3 d rfl
theorem Cells.s0 {w : World} {k : Nat} {a : Value} {l : List Value} (h : Cells w k (a :: l)) (v : Value) : Cells (w.setCell ⟨k, 0, none⟩ v) k (v :: l) := h.set 0 v
theorem Cells.s1 {w : World} {k : Nat} {a b : Value} {l : List Value} (h : Cells w k (a :: b :: l)) (v : Value) : Cells (w.setCell ⟨k, 1, none⟩ v) k (a :: v :: l) := h.set 1 v
theorem Cells.s2 {w : World} {k : Nat} {a b c : Value} {l : List Value} (h : Cells w k (a :: b :: c :: l)) (v : Value) : Cells (w.setCell ⟨k, 2, none⟩ v) k (a :: b :: v :: l) := h.set 2 v
theorem Cells.s3 {w : World} {k : Nat} {a b c d : Value} {l : List Value} (h : Cells w k (a :: b :: c :: d :: l)) (v : Value) : Cells (w.setCell ⟨k, 3, none⟩ v) k (a :: b :: c :: v :: l) := h.set 3 v
theorem Cells.far {w : World} {k : Nat} {vs : List Value} (h : Cells w k vs) (p : Addr) (v : Value) (hp : p.block ≠ k) : Cells (w.setCell p v) k vs := fun i x hx => by
  obtain ⟨h1, h2⟩ := h i x hx
  exact ⟨(World.cell?_setCell_other _ _ _ _ (fun e => hp (by rw [e]))).trans h1, by simpa using h2⟩

theorem SI.rows {f : Bool} {B : Nat} {w : World} {a : Option Addr} {n cap : Nat} {l : List Int} (h : SI f B w (.slice a n cap) l) : 0 < l.length → ∃ b o, a = some ⟨b, o, none⟩ ∧ IRow w b o l := by
  intro h0
  obtain ⟨a', cap', hv, _, h⟩ := h
  injection hv with e1 e2 e3
  subst e1
  obtain ⟨b, o, ha, _, _, hx⟩ := h h0
  exact ⟨b, o, ha, fun j x hj => by have := hx j x hj; rw [Nat.mul_one] at this; exact this⟩
theorem SC.rows {B : Nat} {w : World} {a : Option Addr} {n cap : Nat} {l : List Tx.Ins} (h : SC B w (.slice a n cap) l) : 0 < l.length → ∃ b o, a = some ⟨b, o, none⟩ ∧ Row w b o l := by
  intro h0
  obtain ⟨a', cap', hv, _, h⟩ := h
  injection hv with e1 e2 e3
  subst e1
  obtain ⟨b, o, ha, _, _, hx⟩ := h h0
  exact ⟨b, o, ha, fun j x hj => hx j x hj⟩

/-- A row of numbers that the call has made and that may grow. -/
def nums (l : List Int) : List Value := l.map (Value.int .i64)
def Grow (B : Nat) (w : World) (v : Value) (l : List Int) : Prop := w.ownsRow B 2 1 v l.length (nums l) ∧ v ≠ .slice none 0 0
theorem ownOn {u v : World} {B n q : Nat} {e : TypeId} {x : Value} {xs : List Value} (h : u.ownsRow B e q x n xs) (hb : Below u.heap.size u v) : v.ownsRow B e q x n xs :=
  h.kept (row := none) ⟨hb.os, hb.tape, hb.output, hb.size, fun k hk _ => hb.block k hk⟩ (by
    cases hx : x.ownBlock with
    | none => exact Or.inl rfl
    | some g => exact Or.inr (by simp))
theorem ownBase {w : World} {B B' : Nat} {e : TypeId} {q n : Nat} {x : Value} {xs : List Value} (h : w.ownsRow B e q x n xs) (hB : B' ≤ B) : w.ownsRow B' e q x n xs := by
  obtain ⟨q1, q2 | ⟨g1, c1, cur1, q3, q4, q5⟩⟩ := h
  · exact ⟨q1, Or.inl q2⟩
  · exact ⟨q1, Or.inr ⟨g1, c1, cur1, q3, Nat.le_trans hB q4, q5⟩⟩
/-- A row of numbers at the front of a block, which may be written. -/
def GInt (B : Nat) (w : World) (v : Value) (l : List Int) : Prop := ∃ g cap, v = .slice (some ⟨g, 0, none⟩) l.length cap ∧ B ≤ g ∧ g < w.heap.size ∧ IRow w g 0 l ∧ Room w g l.length
theorem Grow.gint {B : Nat} {w : World} {v : Value} {l : List Int} (h : Grow B w v l) : GInt B w v l := by
  obtain ⟨h, hv⟩ := h
  have hc := @World.ownsRow.cells w B 2 1 v l.length (nums l) h
  have hlt := @World.ownsRow.lt w B 2 1 v l.length (nums l) h
  obtain ⟨_, ⟨h, _⟩ | ⟨g, cap, cur, rfl, hB, hblk, hcap, hmax, hsz, _⟩⟩ := h
  · exact absurd h hv
  · have hcell : ∀ j x, l[j]? = some x → w.cell? ⟨g, j, none⟩ = some (.int .i64 x) := fun j x hj => by
      have := hc (g := g) rfl j (.int .i64 x) (by simp [nums, hj])
      simpa [Go.WideShapes.add_plain] using this
    refine ⟨g, cap, rfl, hB, (hlt g rfl).2, fun j x hj => by rw [Nat.zero_add]; exact hcell j x hj, fun j hj => ⟨⟨_, hcell j _ (List.getElem?_eq_getElem hj)⟩, by simp [World.frozen?, hblk]⟩⟩
theorem GInt.on {B : Nat} {u w : World} {v : Value} {l : List Int} (h : GInt B u v l) (hb : Keep B u w) : GInt B w v l := by
  obtain ⟨g, cap, hv, h1, h2, h3, h4⟩ := h
  refine ⟨g, cap, hv, h1, Nat.lt_of_lt_of_le h2 hb.size, fun j x hj => (hb.cell (p := ⟨g, 0 + j, none⟩) h1 h2).trans (h3 j x hj), fun i hi => ?_⟩
  obtain ⟨⟨x, hx⟩, hf⟩ := h4 i hi
  exact ⟨⟨x, (hb.cell (p := ⟨g, i, none⟩) h1 h2).trans hx⟩, (hb.frozen (p := ⟨g, i, none⟩) h1 h2).trans hf⟩
theorem GInt.si {B : Nat} {w : World} {v : Value} {l : List Int} (h : GInt B w v l) : SI true B w v l := by
  obtain ⟨g, cap, rfl, h1, h2, h3, h4⟩ := h
  exact SI.row h1 h2 h3 h4
theorem SI.nums {f : Bool} {B : Nat} {w : World} {b : Addr} {n cap : Nat} {l : List Int} (h : SI f B w (.slice (some b) n cap) l) : ∀ j u, (nums l)[j]? = some u → w.cell? (b.add j) = some u := by
  intro j u hu
  unfold Pg.nums at hu
  rw [List.getElem?_map] at hu
  cases hv : l[j]? with
  | none => rw [hv] at hu; simp at hu
  | some x =>
    rw [hv] at hu
    simp at hu
    subst hu
    have hj : j < l.length := (List.getElem?_eq_some_iff.1 hv).1
    obtain ⟨b', o', he, hrow⟩ := SI.rows h (by omega)
    simp at he
    subst he
    rw [Go.WideShapes.add_plain]
    exact hrow j x hv
theorem grow_nil (w : World) (o : Obj) : Grow w.heap.size ((w.alloc o).alloc (.cells #[] 2)) (.slice (some ⟨w.heap.size + 1, 0, none⟩) 0 0) [] := by
  refine ⟨ownBase (B := (w.alloc o).heap.size) ?_ (by simp), by simp⟩
  have h : ((w.alloc o).alloc (.cells #[] 2)).ownsRow (w.alloc o).heap.size 2 1 (.slice (some ⟨(w.alloc o).heap.size, 0, none⟩) 0 0) 0 [] := World.ownsRow_made (w.alloc o) #[] 0 (Nat.le_refl _) (by decide) (by simp)
  simpa [Pg.nums] using h
theorem nums_one (l : List Int) : ∀ u ∈ nums l, u.oneCell' = true := by
  intro u hu
  obtain ⟨x, _, rfl⟩ := List.mem_map.1 hu
  rfl
theorem stepApp {P : Program} (w : World) {ops : Array Oper} {o : Oper} {a : Act} {K : Act → World → Prop} {Q : Exit → Act → World → Prop} {E : Prop} (hgd : o.guard = none) (s x : Operand) (t : TypeId)
    (ho : o.op = .call { callee := .builtin .append, args := #[s, x], argTypes := #[t, t] })
    (base : Nat) (e : TypeId) (i : TypeInfo) (z : Value) (size bytes : Nat) (ht : P.underlying t = some (.slice e)) (hi : P.info? e = some i) (hz : i.zero = some z)
    (hsize : i.size = size) (hby : i.bytes = bytes) (hzs : z.cells.size = size) (hsz : 0 < size)
    (v : Value) (n : Nat) (xs : List Value) (hs : a.eval s = v) (hown : w.ownsRow base e size v n xs)
    (ad : Addr) (m c : Nat) (news : List Value) (hx : a.eval x = .slice (some ad) m c) (hl : news.length = m * size) (hnews : ∀ j u, news[j]? = some u → w.cell? (ad.add j) = some u) (h1 : ∀ u ∈ news, u.oneCell' = true)
    (h63 : n + m ≤ maxLen) (hbytes : (n + m) * bytes ≤ 140737488355328) (hbase : base ≤ w.heap.size)
    (h : ∀ v' w', w'.ownsRow base e size v' (n + m) (xs ++ news) → w.grownBy w' v.ownBlock → (v' = .slice none 0 0 ↔ v = .slice none 0 0 ∧ m = 0) → K (a.put o.dst v') w') :
    if Region.wanted o (yielded ops a.tmps) = true then Oper.wp P o a w K Q else E := by
  have hw : Region.wanted o (yielded ops a.tmps) = true := by simp [Region.wanted, hgd]
  rw [if_pos hw]
  exact wp_append_own w s x t ho base e i z size bytes ht hi hz hsize hby hzs hsz v n xs hs hown ad m c news hx hl hnews h1 h63 hbytes hbase h
theorem stepAppNone {P : Program} (w : World) {ops : Array Oper} {o : Oper} {a : Act} {K : Act → World → Prop} {Q : Exit → Act → World → Prop} {E : Prop} (hgd : o.guard = none) (s x : Operand) (t : TypeId)
    (ho : o.op = .call { callee := .builtin .append, args := #[s, x], argTypes := #[t, t] })
    (base : Nat) (e : TypeId) (i : TypeInfo) (size : Nat) (ht : P.underlying t = some (.slice e)) (hi : P.info? e = some i)
    (v : Value) (n : Nat) (xs : List Value) (hs : a.eval s = v) (hown : w.ownsRow base e size v n xs) (hx : a.eval x = .slice none 0 0)
    (h : K (a.put o.dst v) w) :
    if Region.wanted o (yielded ops a.tmps) = true then Oper.wp P o a w K Q else E := by
  have hw : Region.wanted o (yielded ops a.tmps) = true := by simp [Region.wanted, hgd]
  rw [if_pos hw]
  have hrun := run_append_owned_none (P := P) (w := w) base t o.type e i size ht hi v n xs hown
  unfold Oper.wp
  simp [execOp, ho, resolve, invoke, builtin, hs, hx, hrun, Result.andThen]
  exact h

theorem SI.nil (f : Bool) (B : Nat) (w : World) : SI f B w (.slice none 0 0) [] := ⟨none, 0, rfl, fun _ _ => rfl, fun h => by simp at h⟩
theorem Cells.low {u w : World} {k B : Nat} {vs : List Value} (h : Cells u k vs) (hb : Below B u w) (hk : k < B) : Cells w k vs := fun i x hx => by
  obtain ⟨h1, h2⟩ := h i x hx
  exact ⟨(hb.cell (p := ⟨k, i, none⟩) hk).trans h1, (hb.frozen (p := ⟨k, i, none⟩) hk).trans h2⟩
theorem cells_lowP {B k : Nat} {u w : World} {vs : List Value} (h : Cells u k vs) (hb : Below B u w) (hk : k < B) : Cells w k vs := fun i x hx => by
  obtain ⟨h1, h2⟩ := h i x hx
  exact ⟨(hb.cell (p := ⟨k, i, none⟩) hk).trans h1, (hb.frozen (p := ⟨k, i, none⟩) hk).trans h2⟩
theorem nums_snoc (l : List Int) (x : Int) : nums (l ++ [x]) = nums l ++ [.int .i64 x] := by simp [nums]
theorem grow_next {w : World} {B : Nat} {v : Value} {l : List Int} {x : Int} (h : w.ownsRow B 2 1 v (l.length + 1) (nums l ++ [.int .i64 x])) (hv : v ≠ .slice none 0 0) : Grow B w v (l ++ [x]) := by
  refine ⟨?_, hv⟩
  rw [nums_snoc, show (l ++ [x]).length = l.length + 1 from by simp]
  exact h
theorem grow_start (w : World) : Grow w.heap.size (w.alloc (.cells #[] 2)) (.slice (some ⟨w.heap.size, 0, none⟩) 0 0) [] := by
  refine ⟨?_, by simp⟩
  have h : (w.alloc (.cells #[] 2)).ownsRow w.heap.size 2 1 (.slice (some ⟨w.heap.size, 0, none⟩) 0 0) 0 [] := World.ownsRow_made w #[] 0 (Nat.le_refl _) (by decide) (by simp)
  simpa [nums] using h
theorem Grow.on {B : Nat} {u v : World} {x : Value} {l : List Int} (h : Grow B u x l) (hb : Below u.heap.size u v) : Grow B v x l := ⟨ownOn h.1 hb, h.2⟩
theorem Grow.form {B : Nat} {w : World} {x : Value} {l : List Int} (h : Grow B w x l) : ∃ g cap, x = .slice (some ⟨g, 0, none⟩) l.length cap := by
  obtain ⟨g, cap, hv, _⟩ := h.gint
  exact ⟨g, cap, hv⟩
theorem Grow.base' {B B' : Nat} {w : World} {v : Value} {l : List Int} (h : Grow B w v l) (hB : B' ≤ B) : Grow B' w v l := ⟨ownBase h.1 hB, h.2⟩

set_option maxHeartbeats 800000 in
theorem l1Has (g cap : Nat) (l : List Int) (n : Int) (hl : l.length ≤ 1048576) (w : World) (h : IRow w g 0 l) :
    Calls Tryz.prog 61 #[.slice (some ⟨g, 0, none⟩) l.length cap, .int .i64 n] w fun e w' => e = .returned (.bool (decide (n ∈ l))) ∧ w' = w := by
  have HI : Hid (IRow w g 0 l) := h
  clear h
  go_enter Tryz.func61, Tryz.ntmps61
  go_wp2
  go_loopw [5] (fun i wr => ∃ k : Nat, k ≤ l.length ∧ i = .int .i64 k ∧ Hid (n ∉ l.take k) ∧ wr = w) (fun i _ => l.length - (intOf i).toNat)
  case atStart => exact ⟨0, Nat.zero_le _, rfl, by show _ ∉ _; simp, rfl⟩
  case round =>
    obtain ⟨k, hk, rfl, hno, rfl⟩ := hrel
    by_cases hlt : k < l.length
    · have c0 := HI.out k _ (List.getElem?_eq_getElem hlt)
      rw [Nat.zero_add] at c0
      have HT : Hid (l[k] ≠ n → n ∉ l.take (k + 1)) := fun h hm => by
        rw [List.take_succ_eq_append_getElem hlt] at hm
        rcases List.mem_append.1 hm with hm | hm
        · exact hno.out hm
        · simp at hm; exact h hm.symm
      have HF : Hid (l[k] = n → decide (n ∈ l) = true) := fun h => by
        simp only [decide_eq_true_eq]; rw [← h]; exact List.getElem_mem hlt
      generalize l[k] = x at *
      have hki : (k : Int) < (l.length : Int) := by omega
      by_cases hx : x = n
      · have HD : Hid (decide (n ∈ l) = true) := HF.out hx
        have hxb : (x == n) = true := by simpa using hx
        clear HT HF hno hx
        go_wp2
        go_ret
        exact ⟨retB HD.out.symm, rfl⟩
      · have HD : Hid (n ∉ l.take (k + 1)) := HT.out hx
        have hxb : (x == n) = false := by simpa using hx
        clear HT HF hno hx
        go_wp2
        go_roundw
        case rel => exact ⟨k + 1, by omega, by go_num, HD.out, by simp⟩
        case measure => simp [intOf]; omega
    · have HD : Hid (decide (n ∈ l) = false) := by
        show _ = _
        have h := hno.out
        rw [List.take_of_length_le (by omega)] at h
        simpa using h
      go_wp2
      go_ret
      exact ⟨retB HD.out.symm, rfl⟩
theorem own_blockT {W : World} {n₀ g n cp : Nat} {e : TypeId} {xs : List Value} (h : W.ownsRow n₀ e 1 (.slice (some ⟨g, 0, none⟩) n cp) n xs) : n ≤ cp ∧ n₀ ≤ g ∧ ∃ cur, W.heap[g]? = some (.cells cur e (0, 0)) := by
  obtain ⟨_, ⟨h, _⟩ | ⟨g', cap', cur, hv, h1, h2, h3, _⟩⟩ := h
  · simp at h
  · injection hv with e1 e2 e3
    injection e1 with e1
    injection e1 with e1
    subst e1 e3
    exact ⟨h3, h1, cur, h2⟩

/-- A row of numbers at the front of a block. -/
def Lst (w : World) (v : Value) (l : List Int) : Prop := ∃ g c, v = .slice (some ⟨g, 0, none⟩) l.length c ∧ l.length ≤ c ∧ g < w.heap.size ∧ IRow w g 0 l
theorem Lst.on {u w : World} {v : Value} {l : List Int} (h : Lst u v l) (hb : Below u.heap.size u w) : Lst w v l := by
  obtain ⟨g, c, h1, h2, h3, h4⟩ := h
  exact ⟨g, c, h1, h2, Nat.lt_of_lt_of_le h3 hb.size, h4.on hb⟩
theorem Grow.lst {B : Nat} {w : World} {v : Value} {l : List Int} (h : Grow B w v l) : Lst w v l := by
  obtain ⟨g, c, hv, h1, h2, h3, _⟩ := h.gint
  have h' := h.1
  rw [hv] at h'
  exact ⟨g, c, hv, (own_blockT h').1, h2, h3⟩
theorem irow_nums {w : World} {g o : Nat} {l : List Int} (h : IRow w g o l) : ∀ j u, (nums l)[j]? = some u → w.cell? ((⟨g, o, none⟩ : Addr).add j) = some u := by
  intro j u hu
  rw [Go.WideShapes.add_plain]
  simp only [nums, List.getElem?_map, Option.map_eq_some_iff] at hu
  obtain ⟨x, hx, rfl⟩ := hu
  exact h j x hx
theorem irow_drop {w : World} {g k : Nat} {l : List Int} (h : IRow w g 0 l) : IRow w g k (l.drop k) := fun j x hj => by
  have := h (k + j) x (by rw [← hj, List.getElem?_drop])
  rw [Nat.zero_add] at this
  exact this
theorem irow_take {w : World} {g k : Nat} {l : List Int} (h : IRow w g 0 l) : IRow w g 0 (l.take k) := fun j x hj => by
  rw [List.getElem?_take] at hj
  split at hj
  · exact h j x hj
  · simp at hj
theorem grow_app {w : World} {B n : Nat} {v : Value} {a b : List Int} (h : w.ownsRow B 2 1 v n (nums a ++ nums b)) (hn : n = (a ++ b).length) (hv : v ≠ .slice none 0 0) : Grow B w v (a ++ b) := by
  refine ⟨?_, hv⟩
  have e : nums (a ++ b) = nums a ++ nums b := by simp [nums]
  rw [e, ← hn]
  exact h

set_option maxRecDepth 100000 in
set_option maxHeartbeats 2000000 in
theorem l1Put (l : List Int) (v : Value) (n : Int) (hl : l.length ≤ 1000) (w : World) (h : Lst w v l) :
    Calls Tryz.prog 45 #[v, .int .i64 n] w fun e w' => ∃ v', e = .returned v' ∧ Lst w' v' (putL l n) ∧ Below w.heap.size w w' := by
  obtain ⟨i0, hif, hz0, hz1, hz2⟩ := info_parts infoN
  obtain ⟨g, cap, rfl, hcap, hgw, hir⟩ := h
  have HR : Hid (IRow w g 0 l) := hir
  clear hir
  go_enter Tryz.func45, Tryz.ntmps45
  go_wp2
  go_loopw [5] (fun i wr => ∃ k : Nat, k ≤ l.length ∧ i = .int .i64 (k : Int) ∧ Hid (∀ x ∈ l.take k, x < n) ∧ wr = w) (fun i _ => l.length - (intOf i).toNat)
  case atStart => exact ⟨0, Nat.zero_le _, rfl, fun x hx => by simp at hx, rfl⟩
  case round =>
    obtain ⟨k, hk, rfl, hlo, rfl⟩ := hrel
    have HAT : Hid ((∀ x, l[k]? = some x → x = n → putL l n = l) ∧ ((∀ x, l[k]? = some x → n < x) → putL l n = l.take k ++ n :: l.drop k)) := putL_at hlo.out hk
    have tail : ∀ (hne : ∀ x, l[k]? = some x → n < x), Hid (putL l n = (l.take k ++ [n]) ++ l.drop k) := fun hne => by show _ = _; rw [HAT.out.2 hne]; simp
    by_cases hlt : k < l.length
    · have c0 := HR.out k _ (List.getElem?_eq_getElem hlt)
      have X0 : Hid (l[k]? = some l[k]) := List.getElem?_eq_getElem hlt
      have HT : Hid (l[k] < n → ∀ x ∈ l.take (k + 1), x < n) := fun h x hx => by
        rw [List.take_succ_eq_append_getElem hlt] at hx
        rcases List.mem_append.1 hx with hx | hx
        · exact hlo.out x hx
        · simp at hx; subst hx; exact h
      generalize l[k] = y at *
      rw [Nat.zero_add] at c0
      have hki : (k : Int) < (l.length : Int) := by omega
      by_cases hy : y < n
      · have HL : Hid (∀ x ∈ l.take (k + 1), x < n) := HT.out hy
        clear HT hlo HAT tail X0
        go_wp2
        go_roundw
        case rel => exact ⟨k + 1, by omega, by go_num, HL.out, by simp⟩
        case measure => simp [intOf]; omega
      · by_cases hyn : y = n
        · subst hyn
          have HE : Hid (putL l y = l) := HAT.out.1 y X0.out rfl
          clear HT hlo HAT tail X0
          go_wp2
          go_ret
          exact ⟨_, rfl, by rw [HE.out]; exact ⟨g, cap, rfl, hcap, hgw, HR.out⟩, Below.refl _ _⟩
        · have HE := tail (fun x hx => by rw [X0.out] at hx; injection hx with hx; omega)
          have hyb : (y == n) = false := by simpa using hyn
          clear HT hlo HAT tail X0
          have hkl : (k : Int) ≤ (l.length : Int) := by omega
          have hk0 : (0 : Int) ≤ (k : Int) := by omega
          have hkc : (k : Int) ≤ (cap : Int) := by omega
          have HLT : Hid ((l.take k).length = k) := by show _ = _; rw [List.length_take]; omega
          have HLD : Hid ((l.drop k).length = l.length - k) := by show _ = _; rw [List.length_drop]
          have hO1 : (wr.alloc (.cells #[] 2)).ownsRow wr.heap.size 2 1 (.slice (some ⟨wr.heap.size, 0, none⟩) 0 0) 0 [] := World.ownsRow_made wr #[] 0 (Nat.le_refl _) (by decide) (by simp)
          have HO1 : Hid ((wr.alloc (.cells #[] 2)).ownsRow wr.heap.size 2 1 (.slice (some ⟨wr.heap.size, 0, none⟩) 0 0) 0 []) := hO1
          clear hO1
          go_wp2_with (at_builtin; refine wpList_append_own _ rfl _ _ 26 rfl wr.heap.size 2 i0 (.int .i64 0) 1 8 Tryz.underlying26 hif hz0 hz1 hz2 rfl (by decide) _ _ _ rfl HO1.out ⟨g, k, none⟩ (l.length - k) (cap - k) (nums (l.drop k)) rfl (by simp [nums]) (irow_nums (irow_drop (HR.out.on ((Below.refl _ _).alloc (Nat.le_refl _) _)))) (nums_one _) (by unfold maxLen; omega) (by omega) (by simp) ?_)
          intro v1 w1 hown1 hgrow1 hnil1
          have hb1 : Below wr.heap.size wr w1 := ((Below.refl _ _).alloc (Nat.le_refl _) _).grown hgrow1 (by simp) (fun q hq => by simp [Value.ownBlock] at hq; omega)
          have HG1 : Hid (Grow wr.heap.size w1 v1 (l.drop k)) := grow_app (a := []) hown1 (by simp) (fun h => by first | exact hnil1 h | exact absurd (hnil1.1 h).1 (by simp))
          clear hown1 hgrow1 hnil1 HO1
          obtain ⟨g1, c1, rfl⟩ := HG1.out.form
          have HI1 : Hid (IRow w1 g1 0 (l.drop k)) := by
            obtain ⟨_, _, hv, _, _, hi, _⟩ := HG1.out.gint
            injection hv with e1 e2 e3
            injection e1 with e1
            injection e1 with e1
            subst e1
            exact hi
          rw [HLD.out]
          have HR1 : Hid (IRow w1 g 0 l) := HR.out.on hb1
          have hO2 : (w1.alloc (.cells #[] 2)).ownsRow w1.heap.size 2 1 (.slice (some ⟨w1.heap.size, 0, none⟩) 0 0) 0 [] := World.ownsRow_made w1 #[] 0 (Nat.le_refl _) (by decide) (by simp)
          have HO2 : Hid ((w1.alloc (.cells #[] 2)).ownsRow w1.heap.size 2 1 (.slice (some ⟨w1.heap.size, 0, none⟩) 0 0) 0 []) := hO2
          clear hO2
          go_wp2_with (at_builtin; refine wpList_append_own _ rfl _ _ 26 rfl w1.heap.size 2 i0 (.int .i64 0) 1 8 Tryz.underlying26 hif hz0 hz1 hz2 rfl (by decide) _ _ _ rfl HO2.out ⟨g, 0, none⟩ k cap (nums (l.take k)) rfl (by simp [nums]; omega) (irow_nums (irow_take (HR1.out.on ((Below.refl _ _).alloc (Nat.le_refl _) _)))) (nums_one _) (by unfold maxLen; omega) (by omega) (by simp) ?_)
          intro v2 w2 hown2 hgrow2 hnil2
          have hb2 : Below w1.heap.size w1 w2 := ((Below.refl _ _).alloc (Nat.le_refl _) _).grown hgrow2 (by simp) (fun q hq => by simp [Value.ownBlock] at hq; omega)
          have HG2 : Hid (Grow w1.heap.size w2 v2 (l.take k)) := grow_app (a := []) hown2 (by simp; omega) (fun h => by first | exact hnil2 h | exact absurd (hnil2.1 h).1 (by simp))
          clear hown2 hgrow2 hnil2 HO2
          obtain ⟨g2, c2, rfl⟩ := HG2.out.form
          rw [HLT.out]
          have HX2 : Hid (w2.ownsRow w1.heap.size 2 1 (.slice (some ⟨g2, 0, none⟩) k c2) k (nums (l.take k))) := by have h := HG2.out.1; rw [HLT.out] at h; exact h
          have hz2' : w1.heap.size ≤ w2.heap.size := hb2.size
          go_wp2_with (at_builtin; refine wpList_append_own _ rfl _ _ 26 rfl w1.heap.size 2 i0 (.int .i64 0) 1 8 Tryz.underlying26 hif hz0 hz1 hz2 rfl (by decide) _ _ _ rfl (HX2.out.alloc _) ⟨w2.heap.size, 0, none⟩ 1 1 [.int .i64 n] rfl rfl (cell_one_new _ _ _) (by simp [Value.oneCell']) (by unfold maxLen; omega) (by omega) (by simp; omega) ?_)
          intro v3 w3 hown3 hgrow3 hnil3
          have hb3 : Below w1.heap.size w1 w3 := (hb2.alloc hb2.size _).grown hgrow3 (by simp; omega) (fun q hq => by simp [Value.ownBlock] at hq; subst hq; exact (HX2.out.lt g2 rfl).1)
          have HG3 : Hid (Grow w1.heap.size w3 v3 (l.take k ++ [n])) := grow_app (b := [n]) hown3 (by rw [List.length_append, HLT.out]; rfl) (fun h => by first | exact hnil3 h | exact absurd (hnil3.1 h).1 (by simp))
          clear hown3 hgrow3 hnil3 HG2 hb2 HX2
          obtain ⟨g3, c3, rfl⟩ := HG3.out.form
          have HL3 : Hid ((l.take k ++ [n]).length = k + 1) := by show _ = _; rw [List.length_append, HLT.out]; rfl
          rw [HL3.out]
          have HX3 : Hid (w3.ownsRow w1.heap.size 2 1 (.slice (some ⟨g3, 0, none⟩) (k + 1) c3) (k + 1) (nums (l.take k ++ [n]))) := by have h := HG3.out.1; rw [HL3.out] at h; exact h
          have hz3 : w1.heap.size ≤ w3.heap.size := hb3.size
          have HI3 : Hid (IRow w3 g1 0 (l.drop k)) := HI1.out.on hb3
          go_wp2_with (at_builtin; refine wpList_append_own _ rfl _ _ 26 rfl w1.heap.size 2 i0 (.int .i64 0) 1 8 Tryz.underlying26 hif hz0 hz1 hz2 rfl (by decide) _ _ _ rfl HX3.out ⟨g1, 0, none⟩ (l.length - k) c1 (nums (l.drop k)) rfl (by simp [nums]) (irow_nums HI3.out) (nums_one _) (by unfold maxLen; omega) (by omega) hz3 ?_)
          intro v4 w4 hown4 hgrow4 hnil4
          have hb4 : Below w1.heap.size w1 w4 := hb3.grown hgrow4 hz3 (fun q hq => by simp [Value.ownBlock] at hq; subst hq; exact (HX3.out.lt g3 rfl).1)
          have HG4 : Hid (Grow w1.heap.size w4 v4 ((l.take k ++ [n]) ++ l.drop k)) := grow_app hown4 (by rw [List.length_append, HLD.out, HL3.out]) (fun h => by first | exact hnil4 h | exact absurd (hnil4.1 h).1 (by simp))
          have HB4 : Hid (Below wr.heap.size wr w4) := below_over hb1 hb4
          clear hown4 hgrow4 hnil4 hb4 hb3 hb1
          go_wp2
          go_ret
          exact ⟨_, rfl, by rw [HE.out]; exact HG4.out.lst, HB4.out⟩
    · have HE := tail (fun x hx => by have := (List.getElem?_eq_some_iff.1 hx).1; omega)
      have hke : k = l.length := by omega
      subst hke
      rw [List.take_length, List.drop_length, List.append_nil] at HE
      clear hlo HAT tail
      have hkc : (l.length : Int) ≤ (cap : Int) := by omega
      rcases Nat.eq_or_lt_of_le hcap with hcc | hcc
      · subst hcc
        have HO1 : Hid ((wr.alloc (.cells #[] 2)).ownsRow wr.heap.size 2 1 (.slice (some ⟨wr.heap.size, 0, none⟩) 0 0) 0 []) := World.ownsRow_made wr #[] 0 (Nat.le_refl _) (by decide) (by simp)
        go_wp2_with (at_builtin; refine wpList_append_own _ rfl _ _ 26 rfl wr.heap.size 2 i0 (.int .i64 0) 1 8 Tryz.underlying26 hif hz0 hz1 hz2 rfl (by decide) _ _ _ rfl HO1.out _ 0 _ [] rfl rfl (by intro j u h; simp at h) (by simp) (by unfold maxLen; omega) (by omega) (by simp) ?_)
        intro v1 w1 hown1 hgrow1 hnil1
        have hb1 : Below wr.heap.size wr w1 := ((Below.refl _ _).alloc (Nat.le_refl _) _).grown hgrow1 (by simp) (fun q hq => by simp [Value.ownBlock] at hq; omega)
        have HG1 : Hid (Grow wr.heap.size w1 v1 []) := grow_app (a := []) (b := []) hown1 (by simp) (fun h => by first | exact hnil1 h | exact absurd (hnil1.1 h).1 (by simp))
        clear hown1 hgrow1 hnil1 HO1
        obtain ⟨g1, c1, rfl⟩ := HG1.out.form
        rw [List.length_nil]
        have HR1 : Hid (IRow w1 g 0 l) := HR.out.on hb1
        have HO2 : Hid ((w1.alloc (.cells #[] 2)).ownsRow w1.heap.size 2 1 (.slice (some ⟨w1.heap.size, 0, none⟩) 0 0) 0 []) := World.ownsRow_made w1 #[] 0 (Nat.le_refl _) (by decide) (by simp)
        go_wp2_with (at_builtin; refine wpList_append_own _ rfl _ _ 26 rfl w1.heap.size 2 i0 (.int .i64 0) 1 8 Tryz.underlying26 hif hz0 hz1 hz2 rfl (by decide) _ _ _ rfl HO2.out ⟨g, 0, none⟩ l.length _ (nums l) rfl (by simp [nums]) (irow_nums (HR1.out.on ((Below.refl _ _).alloc (Nat.le_refl _) _))) (nums_one _) (by unfold maxLen; omega) (by omega) (by simp) ?_)
        intro v2 w2 hown2 hgrow2 hnil2
        have hb2 : Below w1.heap.size w1 w2 := ((Below.refl _ _).alloc (Nat.le_refl _) _).grown hgrow2 (by simp) (fun q hq => by simp [Value.ownBlock] at hq; omega)
        have HG2 : Hid (Grow w1.heap.size w2 v2 l) := grow_app (a := []) hown2 (by simp) (fun h => by first | exact hnil2 h | exact absurd (hnil2.1 h).1 (by simp))
        clear hown2 hgrow2 hnil2 HO2
        obtain ⟨g2, c2, rfl⟩ := HG2.out.form
        have hz2' : w1.heap.size ≤ w2.heap.size := hb2.size
        go_wp2_with (at_builtin; refine wpList_append_own _ rfl _ _ 26 rfl w1.heap.size 2 i0 (.int .i64 0) 1 8 Tryz.underlying26 hif hz0 hz1 hz2 rfl (by decide) _ _ _ rfl (HG2.out.1.alloc _) ⟨w2.heap.size, 0, none⟩ 1 1 [.int .i64 n] rfl rfl (cell_one_new _ _ _) (by simp [Value.oneCell']) (by unfold maxLen; omega) (by omega) (by simp; omega) ?_)
        intro v3 w3 hown3 hgrow3 hnil3
        have hb3 : Below w1.heap.size w1 w3 := (hb2.alloc hb2.size _).grown hgrow3 (by simp; omega) (fun q hq => by simp [Value.ownBlock] at hq; subst hq; exact (HG2.out.1.lt g2 rfl).1)
        have HG3 : Hid (Grow w1.heap.size w3 v3 (l ++ [n])) := grow_next hown3 (fun h => by first | exact hnil3 h | exact absurd (hnil3.1 h).1 (by simp))
        clear hown3 hgrow3 hnil3 HG2 hb2
        obtain ⟨g3, c3, rfl⟩ := HG3.out.form
        have HL3 : Hid ((l ++ [n]).length = l.length + 1) := by show _ = _; rw [List.length_append]; rfl
        rw [HL3.out]
        have HX3 : Hid (w3.ownsRow w1.heap.size 2 1 (.slice (some ⟨g3, 0, none⟩) (l.length + 1) c3) (l.length + 1) (nums (l ++ [n]))) := by have h := HG3.out.1; rw [HL3.out] at h; exact h
        have hz3 : w1.heap.size ≤ w3.heap.size := hb3.size
        go_wp2_with (at_builtin; refine wpList_append_own _ rfl _ _ 26 rfl w1.heap.size 2 i0 (.int .i64 0) 1 8 Tryz.underlying26 hif hz0 hz1 hz2 rfl (by decide) _ _ _ rfl HX3.out ⟨g1, 0, none⟩ 0 c1 [] rfl rfl (by intro j u h; simp at h) (by simp) (by unfold maxLen; omega) (by omega) hz3 ?_)
        intro v4 w4 hown4 hgrow4 hnil4
        have hb4 : Below w1.heap.size w1 w4 := hb3.grown hgrow4 hz3 (fun q hq => by simp [Value.ownBlock] at hq; subst hq; exact (HX3.out.lt g3 rfl).1)
        have HG4 : Hid (Grow w1.heap.size w4 v4 (l ++ [n])) := ⟨by rw [HL3.out]; exact hown4, fun h => by first | exact hnil4 h | exact absurd (hnil4.1 h).1 (by simp)⟩
        have HB4 : Hid (Below wr.heap.size wr w4) := below_over hb1 hb4
        clear hown4 hgrow4 hnil4 hb4 hb3 hb1
        go_wp2
        go_ret
        exact ⟨_, rfl, by rw [HE.out]; exact HG4.out.lst, HB4.out⟩
      · have hcc1 : ¬ (cap - l.length = 0) := by omega
        have hcc2 : (l.length : Int) < (cap : Int) := by omega
        have hcc3 : cap ≠ l.length := by omega
        have HO1 : Hid ((wr.alloc (.cells #[] 2)).ownsRow wr.heap.size 2 1 (.slice (some ⟨wr.heap.size, 0, none⟩) 0 0) 0 []) := World.ownsRow_made wr #[] 0 (Nat.le_refl _) (by decide) (by simp)
        go_wp2_with (at_builtin; refine wpList_append_own _ rfl _ _ 26 rfl wr.heap.size 2 i0 (.int .i64 0) 1 8 Tryz.underlying26 hif hz0 hz1 hz2 rfl (by decide) _ _ _ rfl HO1.out _ 0 _ [] rfl rfl (by intro j u h; simp at h) (by simp) (by unfold maxLen; omega) (by omega) (by simp) ?_)
        intro v1 w1 hown1 hgrow1 hnil1
        have hb1 : Below wr.heap.size wr w1 := ((Below.refl _ _).alloc (Nat.le_refl _) _).grown hgrow1 (by simp) (fun q hq => by simp [Value.ownBlock] at hq; omega)
        have HG1 : Hid (Grow wr.heap.size w1 v1 []) := grow_app (a := []) (b := []) hown1 (by simp) (fun h => by first | exact hnil1 h | exact absurd (hnil1.1 h).1 (by simp))
        clear hown1 hgrow1 hnil1 HO1
        obtain ⟨g1, c1, rfl⟩ := HG1.out.form
        rw [List.length_nil]
        have HR1 : Hid (IRow w1 g 0 l) := HR.out.on hb1
        have HO2 : Hid ((w1.alloc (.cells #[] 2)).ownsRow w1.heap.size 2 1 (.slice (some ⟨w1.heap.size, 0, none⟩) 0 0) 0 []) := World.ownsRow_made w1 #[] 0 (Nat.le_refl _) (by decide) (by simp)
        go_wp2_with (at_builtin; refine wpList_append_own _ rfl _ _ 26 rfl w1.heap.size 2 i0 (.int .i64 0) 1 8 Tryz.underlying26 hif hz0 hz1 hz2 rfl (by decide) _ _ _ rfl HO2.out ⟨g, 0, none⟩ l.length _ (nums l) rfl (by simp [nums]) (irow_nums (HR1.out.on ((Below.refl _ _).alloc (Nat.le_refl _) _))) (nums_one _) (by unfold maxLen; omega) (by omega) (by simp) ?_)
        intro v2 w2 hown2 hgrow2 hnil2
        have hb2 : Below w1.heap.size w1 w2 := ((Below.refl _ _).alloc (Nat.le_refl _) _).grown hgrow2 (by simp) (fun q hq => by simp [Value.ownBlock] at hq; omega)
        have HG2 : Hid (Grow w1.heap.size w2 v2 l) := grow_app (a := []) hown2 (by simp) (fun h => by first | exact hnil2 h | exact absurd (hnil2.1 h).1 (by simp))
        clear hown2 hgrow2 hnil2 HO2
        obtain ⟨g2, c2, rfl⟩ := HG2.out.form
        have hz2' : w1.heap.size ≤ w2.heap.size := hb2.size
        go_wp2_with (at_builtin; refine wpList_append_own _ rfl _ _ 26 rfl w1.heap.size 2 i0 (.int .i64 0) 1 8 Tryz.underlying26 hif hz0 hz1 hz2 rfl (by decide) _ _ _ rfl (HG2.out.1.alloc _) ⟨w2.heap.size, 0, none⟩ 1 1 [.int .i64 n] rfl rfl (cell_one_new _ _ _) (by simp [Value.oneCell']) (by unfold maxLen; omega) (by omega) (by simp; omega) ?_)
        intro v3 w3 hown3 hgrow3 hnil3
        have hb3 : Below w1.heap.size w1 w3 := (hb2.alloc hb2.size _).grown hgrow3 (by simp; omega) (fun q hq => by simp [Value.ownBlock] at hq; subst hq; exact (HG2.out.1.lt g2 rfl).1)
        have HG3 : Hid (Grow w1.heap.size w3 v3 (l ++ [n])) := grow_next hown3 (fun h => by first | exact hnil3 h | exact absurd (hnil3.1 h).1 (by simp))
        clear hown3 hgrow3 hnil3 HG2 hb2
        obtain ⟨g3, c3, rfl⟩ := HG3.out.form
        have HL3 : Hid ((l ++ [n]).length = l.length + 1) := by show _ = _; rw [List.length_append]; rfl
        rw [HL3.out]
        have HX3 : Hid (w3.ownsRow w1.heap.size 2 1 (.slice (some ⟨g3, 0, none⟩) (l.length + 1) c3) (l.length + 1) (nums (l ++ [n]))) := by have h := HG3.out.1; rw [HL3.out] at h; exact h
        have hz3 : w1.heap.size ≤ w3.heap.size := hb3.size
        go_wp2_with (at_builtin; refine wpList_append_own _ rfl _ _ 26 rfl w1.heap.size 2 i0 (.int .i64 0) 1 8 Tryz.underlying26 hif hz0 hz1 hz2 rfl (by decide) _ _ _ rfl HX3.out ⟨g1, 0, none⟩ 0 c1 [] rfl rfl (by intro j u h; simp at h) (by simp) (by unfold maxLen; omega) (by omega) hz3 ?_)
        intro v4 w4 hown4 hgrow4 hnil4
        have hb4 : Below w1.heap.size w1 w4 := hb3.grown hgrow4 hz3 (fun q hq => by simp [Value.ownBlock] at hq; subst hq; exact (HX3.out.lt g3 rfl).1)
        have HG4 : Hid (Grow w1.heap.size w4 v4 (l ++ [n])) := ⟨by rw [HL3.out]; exact hown4, fun h => by first | exact hnil4 h | exact absurd (hnil4.1 h).1 (by simp)⟩
        have HB4 : Hid (Below wr.heap.size wr w4) := below_over hb1 hb4
        clear hown4 hgrow4 hnil4 hb4 hb3 hb1
        go_wp2
        go_ret
        exact ⟨_, rfl, by rw [HE.out]; exact HG4.out.lst, HB4.out⟩
/-- A block of its own, of whatever type. -/
def BoxT (W : World) (b : Nat) (t : TypeId) (vs : Array Value) : Prop := W.heap[b]? = some (.cells vs t (0, 0))
theorem BoxT.lt {W : World} {b : Nat} {t : TypeId} {vs : Array Value} (h : BoxT W b t vs) : b < W.heap.size := (Array.getElem?_eq_some_iff.1 h).1
theorem BoxT.new (W : World) (t : TypeId) (vs : Array Value) : BoxT (W.alloc (.cells vs t)) W.heap.size t vs := heap_alloc_new W _
theorem BoxT.on {W W' : World} {b : Nat} {t : TypeId} {vs : Array Value} (h : BoxT W b t vs) (hb : Below W.heap.size W W') : BoxT W' b t vs := (hb.block b h.lt).trans h
theorem BoxT.kept {W W' : World} {row : Option Nat} {b : Nat} {t : TypeId} {vs : Array Value} (h : BoxT W b t vs) (hg : W.grownBy W' row) (hne : some b ≠ row) : BoxT W' b t vs := (hg.block b h.lt hne).trans h
theorem BoxT.not_row {W : World} {b : Nat} {t e : TypeId} {vs : Array Value} (h : BoxT W b t vs) (hte : t ≠ e) {base size k : Nat} {v : Value} {xs : List Value} (hr : W.ownsRow base e size v k xs) : some b ≠ v.ownBlock := by
  intro hb
  obtain ⟨_, ⟨rfl, _⟩ | ⟨g, cap, cur, rfl, _, hg, _⟩⟩ := hr
  · simp [Value.ownBlock] at hb
  · simp [Value.ownBlock] at hb
    subst hb
    have h' : W.heap[b]? = some (.cells vs t (0, 0)) := h
    rw [h'] at hg
    injection hg with hg
    injection hg with _ hg
    exact hte hg
theorem BoxT.cell {W : World} {b : Nat} {t : TypeId} {vs : Array Value} (h : BoxT W b t vs) {i : Nat} {x : Value} (hx : vs[i]? = some x) : W.cell? ⟨b, i, none⟩ = some x := by
  have h' : W.heap[b]? = some (.cells vs t (0, 0)) := h
  simp [World.cell?, h', hx]
/-- What an append onto a list of one's own keeps. -/
structure Kept (B : Nat) (W W' : World) : Prop where
  below : Below B W W'
  box : ∀ b t vs, t ≠ 2 → BoxT W b t vs → BoxT W' b t vs
theorem Kept.of {B : Nat} {W W' : World} (h : Below W.heap.size W W') (hB : B ≤ W.heap.size) : Kept B W W' := ⟨h.mono hB, fun _ _ _ _ h1 => h1.on h⟩
theorem Kept.refl (B : Nat) (W : World) : Kept B W W := ⟨Below.refl _ _, fun _ _ _ _ h => h⟩
theorem Kept.trans {B : Nat} {W W' W'' : World} (h : Kept B W W') (h' : Kept B W' W'') : Kept B W W'' := ⟨h.below.trans h'.below, fun b t vs ht hb => h'.box b t vs ht (h.box b t vs ht hb)⟩
theorem Kept.alloc {B : Nat} {W W' : World} (h : Kept B W W') (hB : B ≤ W.heap.size) (o : Obj) : Kept B W (W'.alloc o) := h.trans (Kept.of ((Below.refl _ _).alloc (Nat.le_refl _) _) (Nat.le_trans hB h.below.size))
theorem kept_grown {B : Nat} {W W' : World} {v : Value} {n : Nat} {xs : List Value} (hB : B ≤ W.heap.size) (hr : W.ownsRow B 2 1 v n xs) (hg : W.grownBy W' v.ownBlock) : Kept B W W' :=
  ⟨(Below.refl _ _).grown hg hB (fun k hk => (hr.lt k hk).1), fun _ _ _ ht hb => hb.kept hg (hb.not_row ht hr)⟩
theorem nums_app (l r : List Int) : nums (l ++ r) = nums l ++ nums r := by simp [nums]
theorem nums_length (l : List Int) : (nums l).length = l.length := by simp [nums]
theorem SI.none_nil {B : Nat} {w : World} {n cap : Nat} {l : List Int} (h : SI true B w (.slice none n cap) l) (hn : n = l.length) : l = [] ∧ n = 0 ∧ cap = 0 := by
  have hl : l = [] := by
    cases l with
    | nil => rfl
    | cons x l =>
      obtain ⟨b, o, he, _⟩ := SI.rows h (by simp)
      cases he
  subst hl
  subst hn
  refine ⟨rfl, rfl, ?_⟩
  rcases h with h | h
  all_goals simp_all
theorem grow_lit1 (w : World) (x : Int) : Grow w.heap.size (w.alloc (.cells #[.int .i64 x] 2)) (.slice (some ⟨w.heap.size, 0, none⟩) 1 1) [x] :=
  ⟨⟨by simp [nums], .inr ⟨w.heap.size, 1, _, rfl, Nat.le_refl _, heap_alloc_new w _, Nat.le_refl _, by decide, by simp, by simp [nums]⟩⟩, by simp⟩
theorem grow_lit2 (w : World) (x y : Int) : Grow w.heap.size (w.alloc (.cells #[.int .i64 x, .int .i64 y] 2)) (.slice (some ⟨w.heap.size, 0, none⟩) 2 2) [x, y] :=
  ⟨⟨by simp [nums], .inr ⟨w.heap.size, 2, _, rfl, Nat.le_refl _, heap_alloc_new w _, Nat.le_refl _, by decide, by simp, by simp [nums]⟩⟩, by simp⟩
theorem wpList_grow {w : World} {ops : Array Oper} {rest : List Oper} {o : Oper} {a : Act} {Q : Exit → Act → World → Prop} (hgd : o.guard = none) (s x : Operand)
    (ho : o.op = .call { callee := .builtin .append, args := #[s, x], argTypes := #[26, 26] })
    (B : Nat) (v : Value) (l : List Int) (hs : a.eval s = v) (hg : Grow B w v l) (hB : B ≤ w.heap.size)
    (z : Option Addr) (c B' : Nat) (r : List Int) (hx : a.eval x = .slice z r.length c) (hr : SI true B' w (.slice z r.length c) r) (hlen : l.length + r.length ≤ 1000)
    (h : ∀ v' w', Grow B w' v' (l ++ r) → Kept B w w' → wpList Tryz.prog ops Q rest (a.put o.dst v') w') : wpList Tryz.prog ops Q (o :: rest) a w := by
  obtain ⟨i0, hif, hz0, hz1, hz2⟩ := info_parts infoN
  cases z with
  | none =>
    obtain ⟨rfl, hn, rfl⟩ := SI.none_nil hr rfl
    refine wpList_append_own_none hgd s x 26 ho B 2 i0 1 Tryz.underlying26 hif v l.length (nums l) hs hg.1 hx ?_
    exact h v w (by rw [List.append_nil]; exact hg) (Kept.refl _ _)
  | some ad =>
    refine wpList_append_own w hgd s x 26 ho B 2 i0 (.int .i64 0) 1 8 Tryz.underlying26 hif hz0 hz1 hz2 rfl (by decide) v l.length (nums l) hs hg.1 ad r.length c (nums r) hx (by rw [nums_length, Nat.mul_one]) (SI.nums hr) (nums_one r) (by unfold maxLen; omega) (by omega) hB ?_
    intro v' w' hown hgrow hnil
    refine h v' w' ⟨?_, ?_⟩ (kept_grown hB hg.1 hgrow)
    · rw [List.length_append, nums_app]; exact hown
    · intro e; exact hg.2 (hnil.1 e).1

theorem growOn {B : Nat} {u v : World} {x : Value} {l : List Int} (h : Grow B u x l) (hb : Below u.heap.size u v) : Grow B v x l := ⟨ownOn h.1 hb, h.2⟩
theorem growBase {B B' : Nat} {w : World} {v : Value} {l : List Int} (h : Grow B w v l) (hB : B' ≤ B) : Grow B' w v l := ⟨ownBase h.1 hB, h.2⟩
theorem growForm {B : Nat} {w : World} {x : Value} {l : List Int} (h : Grow B w x l) : ∃ g cap, x = .slice (some ⟨g, 0, none⟩) l.length cap := by
  obtain ⟨g, c, hv, _⟩ := h.gint
  exact ⟨g, c, hv⟩
theorem allocBelow (u : World) (o : Obj) : Below u.heap.size u (u.alloc o) := (Below.refl _ _).alloc (Nat.le_refl _) _
theorem grow_empty (w : World) {B : Nat} (hB : B ≤ w.heap.size) : Grow B (w.alloc (.cells #[] 2)) (.slice (some ⟨w.heap.size, 0, none⟩) ([] : List Int).length 0) [] :=
  ⟨ownBase (World.ownsRow_made w #[] 0 (Nat.le_refl _) (by decide) (by simp)) hB, by simp⟩
end Pg
end Go.Proofs.YtinanjjhkddikaaGreat

/- A find of the program's search. -/
namespace Go.Proofs.YtinanjjhkddikaaGreat
namespace Pg
/-- A find: what (0 made, 1 live, 2 called, 3 needed), the class, the name. -/
abbrev Fd := Int × Int × Int
end Pg
end Go.Proofs.YtinanjjhkddikaaGreat

/- A set of finds as a map keyed by them: what it holds, in words. -/
namespace Go.Proofs.YtinanjjhkddikaaGreat
namespace Pg
open Go.ChangeShapes Go.WideShapes Go.ChangeAt Go.RowKit St Wd

/-- Of all finds there are few. -/
theorem nodup_len {n : Nat} : ∀ {l : List Nat}, l.Nodup → (∀ x ∈ l, x < n) → l.length ≤ n := by
  induction n with
  | zero =>
    intro l _ h
    cases l with
    | nil => exact Nat.le_refl _
    | cons x l => exact absurd (h x (by simp)) (by omega)
  | succ n ih =>
    intro l hnd h
    by_cases hm : n ∈ l
    · have h1 : (l.erase n).Nodup := hnd.erase n
      have h2 : ∀ x ∈ l.erase n, x < n := fun x hx => by
        have h3 := h x (List.mem_of_mem_erase hx)
        have h4 : x ≠ n := fun e => by
          subst e
          exact (List.Nodup.mem_erase_iff hnd).1 hx |>.1 rfl
        omega
      have h5 := ih h1 h2
      rw [List.length_erase_of_mem hm] at h5
      omega
    · have := ih hnd (fun x hx => by have h3 := h x hx; have h4 : x ≠ n := fun e => hm (e ▸ hx); omega)
      omega
def numF (f : Fd) : Nat := f.1.toNat * 120 + f.2.1.toNat * 20 + f.2.2.toNat
structure FewF (f : Fd) : Prop where
  a0 : 0 ≤ f.1
  a1 : f.1 < 4
  b0 : 0 ≤ f.2.1
  b1 : f.2.1 < 6
  c0 : 0 ≤ f.2.2
  c1 : f.2.2 < 20
theorem numF_inj {f g : Fd} (hf : FewF f) (hg : FewF g) (h : numF f = numF g) : f = g := by
  obtain ⟨a, b, c⟩ := f
  obtain ⟨a', b', c'⟩ := g
  obtain ⟨h1, h2, h3, h4, h5, h6⟩ := hf
  obtain ⟨k1, k2, k3, k4, k5, k6⟩ := hg
  unfold numF at h
  dsimp only at *
  have e1 : a = a' := by omega
  subst e1
  have e2 : b = b' := by omega
  subst e2
  have e3 : c = c' := by omega
  subst e3
  rfl
theorem finds_few {l : List Fd} (hnd : l.Nodup) (h : ∀ f ∈ l, FewF f) : l.length ≤ 480 := by
  have h1 : (l.map numF).Nodup := by
    rw [List.nodup_iff_pairwise_ne] at hnd ⊢
    rw [List.pairwise_map]
    exact hnd.imp_of_mem fun {a b} ha hb hne e => hne (numF_inj (h a ha) (h b hb) e)
  have h2 := nodup_len (n := 480) h1 fun x hx => by
    obtain ⟨f, hf, rfl⟩ := List.mem_map.1 hx
    obtain ⟨h1, h2, h3, h4, h5, h6⟩ := h f hf
    unfold numF
    omega
  rwa [List.length_map] at h2
/-- A find, as a value and as a key. -/
abbrev fdV (f : Fd) : Value := .agg #[.int .i64 f.1, .int .i64 f.2.1, .int .i64 f.2.2]
def fdK (f : Fd) : Lit := .string (keyBytes [.int .i64 f.1, .int .i64 f.2.1, .int .i64 f.2.2])
structure WfF (f : Fd) : Prop where
  a : (Lit.int .i64 f.1).wf = true
  b : (Lit.int .i64 f.2.1).wf = true
  c : (Lit.int .i64 f.2.2).wf = true
theorem wf64F {n : Int} (h1 : -9223372036854775808 ≤ n) (h2 : n ≤ 9223372036854775807) : (Lit.int .i64 n).wf = true := by
  have e1 : IntKind.i64.min = -9223372036854775808 := rfl
  have e2 : IntKind.i64.max = 9223372036854775807 := rfl
  simp [Lit.wf, e1, e2]; omega
theorem FewF.wf {f : Fd} (h : FewF f) : WfF f := by
  obtain ⟨h1, h2, h3, h4, h5, h6⟩ := h
  exact ⟨wf64F (by omega) (by omega), wf64F (by omega) (by omega), wf64F (by omega) (by omega)⟩
theorem laidOutF : laidOutB Tryz.prog = true := by kernel_rfl
theorem rowF : (58 : TypeId) < Tryz.prog.types.size := of_decide_eq_true (by kernel_rfl)
theorem wideF : (match Tryz.prog.underlying 58 with | some (.array _ _) | some (.struct _) => true | _ => false) = true := by rw [Tryz.underlying58]
set_option maxRecDepth 100000 in
theorem keyedF : Maps.Keyed Tryz.prog 58 := Maps.Keyed.of_law (deep_law_laid laidOutF (m := 3) (by omega) rowF (by kernel_rfl) wideF)
theorem cellsF : Tryz.prog.cellsOf 58 = 3 := by kernel_rfl
theorem cellsI64F : Tryz.prog.cellsOf 2 = 1 := by kernel_rfl
theorem keyTypeF : Tryz.prog.keyType 58 = true := by kernel_rfl
theorem sizeTF : Tryz.prog.types.size = 174 := by kernel_rfl
theorem lits3F (d : Nat) (a b c : Value) : Tryz.prog.keyLits (d + 2) 58 [a, b, c] = (Tryz.prog.keyLits (d + 1) 2 [a]).bind fun x => (Tryz.prog.keyLits (d + 1) 2 [b]).bind fun y => (Tryz.prog.keyLits (d + 1) 2 [c]).map fun z => x ++ (y ++ z) := by
  conv => lhs; unfold Program.keyLits
  simp only [Tryz.underlying58, cellsF]
  cases h1 : Tryz.prog.keyLits (d + 1) 2 [a] <;> cases h2 : Tryz.prog.keyLits (d + 1) 2 [b] <;> cases h3 : Tryz.prog.keyLits (d + 1) 2 [c] <;> simp [cellsI64F, h1, h2, h3]
theorem lits1F (d : Nat) {n : Int} (h : (Lit.int .i64 n).wf = true) : Tryz.prog.keyLits (d + 1) 2 [.int .i64 n] = some [.int .i64 n] := by
  unfold Program.keyLits
  simp [Tryz.underlying2, h]
set_option maxRecDepth 100000 in
theorem keyOf_fd {f : Fd} (h : WfF f) : keyOf Tryz.prog 58 (fdV f) = some (fdK f) := by
  unfold keyOf
  rw [Tryz.underlying58]
  have hf : (fdV f).formed Tryz.prog 58 = true := by simp [Value.formed, Tryz.underlying58, cellsF]
  have hl : Tryz.prog.keyLits (Tryz.prog.types.size + 1) 58 (fdV f).cells.toList = some [.int .i64 f.1, .int .i64 f.2.1, .int .i64 f.2.2] := by
    rw [sizeTF]
    show Tryz.prog.keyLits ((174 - 1) + 2) 58 [.int .i64 f.1, .int .i64 f.2.1, .int .i64 f.2.2] = _
    rw [lits3F, lits1F _ h.a, lits1F _ h.b, lits1F _ h.c]
    rfl
  simp only [keyTypeF, hf, hl]
  rfl
theorem fdK_inj {f g : Fd} (hf : WfF f) (hg : WfF g) (h : fdK f = fdK g) : f = g := by
  have h1 := keyOf_fd hf
  have h2 := keyOf_fd hg
  rw [h] at h1
  have := keyedF.inj h1 h2
  obtain ⟨a, b, c⟩ := f
  obtain ⟨a', b', c'⟩ := g
  simpa [fdV] using this
theorem fdK_key {f : Fd} (h : WfF f) : WideAt.IsKeyLit (fdK f) := keyedF.key (keyOf_fd h)
theorem mapTF : Tryz.prog.underlying 83 = some (.map 58 92) := Tryz.underlying83
/-- The datum holds just these finds. -/
structure RepF (D : DataW Unit) (l : List Fd) : Prop where
  has : ∀ f, WfF f → Maps.has D (fdK f) = decide (f ∈ l)
  size : Maps.size D = l.length
def FM (w : World) (b : Nat) (l : List Fd) : Prop := ∃ D : DataW Unit, w.ownsMap Tryz.prog 58 (unitElem (H := Unit)) b 600 D ∧ RepF D l
theorem FM.kept {w w' : World} {b : Nat} {l : List Fd} {row : Option Nat} (h : FM w b l) (hg : w.grownBy w' row) (hne : some b ≠ row) : FM w' b l := by
  obtain ⟨D, h1, h2⟩ := h
  exact ⟨D, h1.kept hg hne, h2⟩
theorem FM.lt {w : World} {b : Nat} {l : List Fd} (h : FM w b l) : b < w.heap.size := by
  obtain ⟨D, h1, _⟩ := h
  exact h1.lt
theorem own600 {w : World} {b n : Nat} {D : DataW Unit} (h : w.ownsMap Tryz.prog 58 (unitElem (H := Unit)) b n D) (hs : Maps.size D ≤ 600) : w.ownsMap Tryz.prog 58 (unitElem (H := Unit)) b 600 D := by
  obtain ⟨es, clock, h1, h2, h3, rfl⟩ := h
  refine ⟨es, clock, h1, h2, ?_, rfl⟩
  rw [Maps.size_eq, length_sorted] at hs
  simpa using hs
theorem repF_nil : RepF (.map []) [] := ⟨fun f _ => by simp [Maps.has_eq], rfl⟩
theorem RepF.put {D : DataW Unit} {l : List Fd} (h : RepF D l) (hm : Maps.Tidy D) {f : Fd} (hf : WfF f) (hn : f ∉ l) : RepF (D.put (fdK f) (.agg [])) (f :: l) := by
  refine ⟨fun g hg => ?_, ?_⟩
  · by_cases e : g = f
    · subst e
      rw [Maps.has_put_same hm.isMap (fdK_key hg)]
      simp
    · rw [Maps.has_put_other (fun k => e (fdK_inj hg hf k)), h.has g hg]
      simp [e]
  · rw [Maps.size_put hm, h.has f hf, h.size]
    simp [hn]
end Pg
end Go.Proofs.YtinanjjhkddikaaGreat

/- The program's search in memory: its struct, the set of finds, the row of those to do; what a call leaves. -/
namespace Go.Proofs.YtinanjjhkddikaaGreat
namespace Pg
open Go.ChangeShapes Go.WideShapes Go.ChangeAt Go.RowKit St Wd

/-- Only blocks of the set S have turned. -/
structure Tcs (S : Nat → Prop) (u w : World) : Prop where
  os : w.os = u.os
  tape : w.tape = u.tape
  output : w.output = u.output
  size : u.heap.size ≤ w.heap.size
  far : ∀ k, k < u.heap.size → ¬ S k → w.heap[k]? = u.heap[k]?
theorem Tcs.refl (S : Nat → Prop) (u : World) : Tcs S u u := ⟨rfl, rfl, rfl, Nat.le_refl _, fun _ _ _ => rfl⟩
theorem Tcs.trans {S : Nat → Prop} {u v w : World} (h : Tcs S u v) (k : Tcs S v w) : Tcs S u w :=
  ⟨k.os.trans h.os, k.tape.trans h.tape, k.output.trans h.output, Nat.le_trans h.size k.size, fun i hi hs => (k.far i (Nat.lt_of_lt_of_le hi h.size) hs).trans (h.far i hi hs)⟩
theorem Tcs.mono {S T : Nat → Prop} {u w : World} (h : Tcs S u w) (hs : ∀ k, S k → T k) : Tcs T u w := ⟨h.os, h.tape, h.output, h.size, fun k hk ht => h.far k hk fun s => ht (hs k s)⟩
theorem Tcs.of {S : Nat → Prop} {u w : World} (h : Below u.heap.size u w) : Tcs S u w := ⟨h.os, h.tape, h.output, h.size, fun k hk _ => h.block k hk⟩
theorem Tcs.set {S : Nat → Prop} (u : World) {p : Addr} (hp : S p.block) (v : Value) : Tcs S u (u.setCell p v) := by
  have hb := (Below.refl 0 u).setCell (p := p) (Nat.zero_le _) v
  exact ⟨hb.os, hb.tape, hb.output, hb.size, fun k _ hk => Below.heap_setCell u p v k (fun e => hk (e ▸ hp))⟩
theorem Tcs.below {S : Nat → Prop} {u w : World} (h : Tcs S u w) {B : Nat} (hB : B ≤ u.heap.size) (hs : ∀ k, S k → B ≤ k) : Below B u w := ⟨h.os, h.tape, h.output, h.size, fun k hk => h.far k (by omega) fun s => by have := hs k s; omega⟩
theorem Cells.tcs {S : Nat → Prop} {u w : World} {k : Nat} {vs : List Value} (h : Cells u k vs) (ht : Tcs S u w) (hs : ¬ S k) : Cells w k vs := fun i x hx => by
  obtain ⟨h1, h2⟩ := h i x hx
  have e := ht.far k (cell_lt h1) hs
  exact ⟨(World.cell?_of_block (w := u) e).trans h1, (World.frozen?_of_block (w := u) e).trans h2⟩

/-! What a stretch of the search adds. -/
structure ExtF (F T F' T' : List Fd) : Prop where
  up : ∀ f ∈ F, f ∈ F'
  tup : ∀ f ∈ T, f ∈ T'
  new : ∀ f ∈ F', f ∉ F → f ∈ T'
  sub : ∀ f ∈ T', f ∈ T ∨ f ∈ F'
  len : T'.length + F.length = T.length + F'.length
theorem ExtF.refl (F T : List Fd) : ExtF F T F T := ⟨fun _ h => h, fun _ h => h, fun _ h k => absurd h k, fun _ h => .inl h, rfl⟩
theorem ExtF.trans {F T F' T' F'' T'' : List Fd} (h : ExtF F T F' T') (k : ExtF F' T' F'' T'') : ExtF F T F'' T'' := by
  refine ⟨fun f hf => k.up f (h.up f hf), fun f hf => k.tup f (h.tup f hf), fun f hf hn => ?_, fun f hf => ?_, by have := h.len; have := k.len; omega⟩
  · by_cases e : f ∈ F'
    · exact k.tup f (h.new f e hn)
    · exact k.new f hf e
  · rcases k.sub f hf with h1 | h1
    · rcases h.sub f h1 with h2 | h2
      · exact .inl h2
      · exact .inr (k.up f h2)
    · exact .inr h1
theorem ExtF.add {F T T' : List Fd} {f : Fd} (hn : f ∉ F) (hp : T'.Perm (f :: T)) : ExtF F T (f :: F) T' := by
  refine ⟨fun g hg => List.mem_cons_of_mem _ hg, fun g hg => hp.mem_iff.2 (List.mem_cons_of_mem _ hg), fun g hg hgn => ?_, fun g hg => ?_, by have := hp.length_eq; simp at this ⊢; omega⟩
  · rcases List.mem_cons.1 hg with e | e
    · subst e; exact hp.mem_iff.2 (by simp)
    · exact absurd e hgn
  · rcases List.mem_cons.1 (hp.mem_iff.1 hg) with e | e
    · subst e; exact .inr (by simp)
    · exact .inl e
/-- The cells of a row of finds. -/
def flatF : List Fd → List Value
  | [] => []
  | f :: l => .int .i64 f.1 :: .int .i64 f.2.1 :: .int .i64 f.2.2 :: flatF l
theorem flatF_len : ∀ l : List Fd, (flatF l).length = l.length * 3
  | [] => rfl
  | f :: l => by simp only [flatF, List.length_cons]; rw [flatF_len l]; omega
theorem flatF_app : ∀ a b : List Fd, flatF (a ++ b) = flatF a ++ flatF b
  | [], _ => rfl
  | f :: a, b => by simp only [flatF, List.cons_append]; rw [flatF_app a b]
theorem flatF_at : ∀ (l : List Fd) (j : Nat) (f : Fd), l[j]? = some f → (flatF l)[j * 3]? = some (.int .i64 f.1) ∧ (flatF l)[j * 3 + 1]? = some (.int .i64 f.2.1) ∧ (flatF l)[j * 3 + 2]? = some (.int .i64 f.2.2)
  | [], _, _, h => by simp at h
  | g :: l, 0, f, h => by simp at h; subst h; exact ⟨rfl, rfl, rfl⟩
  | g :: l, j + 1, f, h => by
    have := flatF_at l j f (by simpa using h)
    rw [show (j + 1) * 3 = j * 3 + 3 by omega]
    exact this
theorem flatF_set : ∀ (l : List Fd) (j : Nat) (f : Fd), flatF (l.set j f) = (((flatF l).set (j * 3) (.int .i64 f.1)).set (j * 3 + 1) (.int .i64 f.2.1)).set (j * 3 + 2) (.int .i64 f.2.2)
  | [], _, _ => by simp [flatF]
  | g :: l, 0, f => by simp [flatF]
  | g :: l, j + 1, f => by
    have := flatF_set l j f
    rw [show (j + 1) * 3 = j * 3 + 3 by omega]
    simp only [List.set_cons_succ, flatF]
    rw [this]
/-- Two of a row change places. -/
def swapF (l : List Fd) (i j : Nat) : List Fd := match l[i]?, l[j]? with
  | some x, some y => (l.set i y).set j x
  | _, _ => l
theorem swapF_eq {l : List Fd} {i j : Nat} (hi : i < l.length) (hj : j < l.length) : swapF l i j = (l.set i l[j]).set j l[i] := by
  unfold swapF
  rw [List.getElem?_eq_getElem hi, List.getElem?_eq_getElem hj]
theorem swapF_len (l : List Fd) (i j : Nat) : (swapF l i j).length = l.length := by
  unfold swapF
  split <;> simp
theorem swapF_perm {l : List Fd} {i j : Nat} (hi : i < l.length) (hj : j < l.length) : (swapF l i j).Perm l := by
  rw [swapF_eq hi hj]
  exact List.set_set_perm hi hj
/-- A row of finds of one's own. -/
def RF (B : Nat) (w : World) (v : Value) (T : List Fd) : Prop := w.ownsRow B 58 3 v T.length (flatF T)
theorem RF.kept {B : Nat} {w w' : World} {v : Value} {T : List Fd} {row : Option Nat} (h : RF B w v T) (hg : w.grownBy w' row) (hne : v.ownBlock = none ∨ v.ownBlock ≠ row) : RF B w' v T := World.ownsRow.kept h hg hne
theorem RF.form {B : Nat} {w : World} {v : Value} {T : List Fd} (h : RF B w v T) : ∃ a c, v = .slice a T.length c := by
  rcases h.2 with ⟨hv, hn⟩ | ⟨g, cap, _, hv, _⟩
  · exact ⟨none, 0, by rw [hn]; exact hv⟩
  · exact ⟨_, cap, hv⟩
theorem RF.some {B : Nat} {w : World} {v : Value} {T : List Fd} (h : RF B w v T) (hn : 0 < T.length) : ∃ g c, v = .slice (.some ⟨g, 0, none⟩) T.length c ∧ B ≤ g ∧ g < w.heap.size ∧ T.length ≤ c ∧ c ≤ maxLen := by
  rcases h.2 with ⟨hv, h0⟩ | ⟨g, cap, cur, hv, h1, h2, h3, h4, _⟩
  · omega
  · exact ⟨g, cap, hv, h1, (Array.getElem?_eq_some_iff.1 h2).1, h3, h4⟩
theorem RF.lt {B : Nat} {w : World} {v : Value} {T : List Fd} (h : RF B w v T) : ∀ g, v.ownBlock = .some g → B ≤ g ∧ g < w.heap.size := World.ownsRow.lt h
theorem RF.at {B : Nat} {w : World} {g c : Nat} {T : List Fd} (h : RF B w (.slice (.some ⟨g, 0, none⟩) T.length c) T) {j : Nat} {f : Fd} (hj : T[j]? = .some f) :
    w.cell? ⟨g, j * 3, none⟩ = .some (.int .i64 f.1) ∧ w.cell? ⟨g, j * 3 + 1, none⟩ = .some (.int .i64 f.2.1) ∧ w.cell? ⟨g, j * 3 + 2, none⟩ = .some (.int .i64 f.2.2) := by
  obtain ⟨a0, a1, a2⟩ := flatF_at T j f hj
  have hl := (List.getElem?_eq_some_iff.1 hj).1
  exact ⟨(World.ownsRow.cellAt h _ (by omega)).trans a0, (World.ownsRow.cellAt h _ (by omega)).trans a1, (World.ownsRow.cellAt h _ (by omega)).trans a2⟩
theorem RF.put {B : Nat} {w : World} {g c n : Nat} {T : List Fd} (hn : n = T.length) (h : RF B w (.slice (.some ⟨g, 0, none⟩) n c) T) (j : Nat) (f : Fd) :
    RF B (((w.setCell ⟨g, j * 3, none⟩ (.int .i64 f.1)).setCell ⟨g, j * 3 + 1, none⟩ (.int .i64 f.2.1)).setCell ⟨g, j * 3 + 2, none⟩ (.int .i64 f.2.2)) (.slice (.some ⟨g, 0, none⟩) n c) (T.set j f) := by
  subst hn
  have h1 := (World.ownsRow.stored h (j * 3) (.int .i64 f.1)).1
  have h2 := (World.ownsRow.stored h1 (j * 3 + 1) (.int .i64 f.2.1)).1
  have h3 := (World.ownsRow.stored h2 (j * 3 + 2) (.int .i64 f.2.2)).1
  unfold RF
  rw [flatF_set, List.length_set]
  exact h3
theorem RF.pop {B : Nat} {w : World} {g c n : Nat} {T : List Fd} {f : Fd} (hn : n = T.length) (h : RF B w (.slice (.some ⟨g, 0, none⟩) (n + 1) c) (T ++ [f])) : RF B w (.slice (.some ⟨g, 0, none⟩) n c) T := by
  subst hn
  have h' : w.ownsRow B 58 3 (.slice (.some ⟨g, 0, none⟩) (T.length + 1) c) (T.length + 1) (flatF T ++ flatF [f]) := by
    have := h
    unfold RF at this
    rw [flatF_app, List.length_append] at this
    exact this
  exact ownsRow_pop (flatF_len T) h'
theorem gbF {w w' : World} (h : Below w.heap.size w w') (row : Option Nat) : w.grownBy w' row := ⟨h.os, h.tape, h.output, h.size, fun k hk _ => h.block k hk⟩
theorem FM.on {w w' : World} {b : Nat} {l : List Fd} (h : FM w b l) (hb : Below w.heap.size w w') : FM w' b l := h.kept (gbF hb none) (by simp)
theorem RF.on {B : Nat} {w w' : World} {v : Value} {T : List Fd} (h : RF B w v T) (hb : Below w.heap.size w w') : RF B w' v T := h.kept (gbF hb none) (by cases hq : v.ownBlock with | none => exact .inl rfl | some g => exact .inr (by simp))
/-- The search in block sb, its map in block mb, the program's value pv; v the row of those to do. -/
structure Srch (B0 sb mb : Nat) (pv : Value) (w : World) (v : Value) (F T : List Fd) : Prop where
  cells : Cells w sb [pv, .map (.some mb), v]
  map : FM w mb F
  row : RF B0 w v T
  few : ∀ f ∈ F, FewF f
  nd : F.Nodup
  tl : T.length ≤ F.length
  b1 : B0 ≤ sb
  b2 : B0 ≤ mb
  ne : sb ≠ mb
  o1 : v.ownBlock ≠ .some sb
  o2 : v.ownBlock ≠ .some mb
theorem Srch.on {B0 sb mb : Nat} {pv : Value} {w w' : World} {v : Value} {F T : List Fd} (h : Srch B0 sb mb pv w v F T) (hb : Below w.heap.size w w') : Srch B0 sb mb pv w' v F T :=
  ⟨h.cells.on hb, h.map.on hb, h.row.on hb, h.few, h.nd, h.tl, h.b1, h.b2, h.ne, h.o1, h.o2⟩
theorem Srch.lenF {B0 sb mb : Nat} {pv : Value} {w : World} {v : Value} {F T : List Fd} (h : Srch B0 sb mb pv w v F T) : F.length ≤ 480 := finds_few h.nd h.few
/-- What a stretch of the search writes. -/
structure Frs (sb mb : Nat) (u : World) (v : Value) (w : World) (v' : Value) : Prop where
  tch : Tcs (fun k => k = sb ∨ k = mb ∨ v.ownBlock = .some k) u w
  own : v'.ownBlock = v.ownBlock ∨ ∀ g, v'.ownBlock = .some g → u.heap.size ≤ g
theorem Frs.refl (sb mb : Nat) (u : World) (v : Value) : Frs sb mb u v u v := ⟨Tcs.refl _ _, .inl rfl⟩
theorem Frs.of {sb mb : Nat} {u w : World} (v : Value) (h : Below u.heap.size u w) : Frs sb mb u v w v := ⟨Tcs.of h, .inl rfl⟩
theorem Frs.trans {sb mb : Nat} {u w x : World} {v v' v'' : Value} (h : Frs sb mb u v w v') (k : Frs sb mb w v' x v'') : Frs sb mb u v x v'' := by
  have hs := h.tch.size
  refine ⟨⟨k.tch.os.trans h.tch.os, k.tch.tape.trans h.tch.tape, k.tch.output.trans h.tch.output, Nat.le_trans hs k.tch.size, fun j hj hn => ?_⟩, ?_⟩
  · refine (k.tch.far j (by omega) fun hs' => ?_).trans (h.tch.far j hj hn)
    rcases hs' with e | e | e
    · exact hn (.inl e)
    · exact hn (.inr (.inl e))
    · rcases h.own with h1 | h1
      · exact hn (.inr (.inr (h1 ▸ e)))
      · have := h1 j e; omega
  · rcases k.own with h1 | h1
    · rcases h.own with h2 | h2
      · exact .inl (h1.trans h2)
      · exact .inr fun g hg => h2 g (h1 ▸ hg)
    · exact .inr fun g hg => Nat.le_trans hs (h1 g hg)
/-- A block that is none of the search's. -/
structure FarS (sb mb : Nat) (w : World) (v : Value) (k : Nat) : Prop where
  s : k ≠ sb
  m : k ≠ mb
  v : v.ownBlock ≠ .some k
  lt : k < w.heap.size
theorem FarS.next {sb mb : Nat} {u w : World} {v v' : Value} {k : Nat} (h : FarS sb mb u v k) (f : Frs sb mb u v w v') : FarS sb mb w v' k ∧ w.heap[k]? = u.heap[k]? := by
  have := f.tch.size
  have hl := h.lt
  refine ⟨⟨h.s, h.m, fun e => ?_, by omega⟩, f.tch.far k h.lt fun hs => ?_⟩
  · rcases f.own with h1 | h1
    · exact h.v (h1 ▸ e)
    · have := h1 k e; omega
  · rcases hs with e | e | e
    · exact h.s e
    · exact h.m e
    · exact h.v e
theorem Srch.far {B0 sb mb : Nat} {pv : Value} {w w' : World} {v : Value} {F T : List Fd} (h : Srch B0 sb mb pv w v F T) {k : Nat} (hk : w.heap.size ≤ k) (hl : k < w'.heap.size) : FarS sb mb w' v k :=
  ⟨by have := cell_lt h.cells.g0.1; dsimp only at this; omega, by have := h.map.lt; omega, fun e => by have := (h.row.lt k e).2; omega, hl⟩
theorem Frs.below {B0 sb mb : Nat} {pv : Value} {u w : World} {v v' : Value} {F T : List Fd} (h : Srch B0 sb mb pv u v F T) (f : Frs sb mb u v w v') : Below B0 u w := by
  refine f.tch.below ?_ fun k hk => ?_
  · have := h.map.lt; have := h.b2; omega
  · rcases hk with e | e | e
    · subst e; exact h.b1
    · subst e; exact h.b2
    · exact (h.row.lt k e).1
end Pg
end Go.Proofs.YtinanjjhkddikaaGreat

/- The row of finds as a heap: its methods, and the library's Push and Pop over it. -/
namespace Go.Proofs.YtinanjjhkddikaaGreat
namespace Pg
open Go.ChangeShapes Go.WideShapes Go.ChangeAt Go.RowKit St Wd

/-- A row is laid behind a row of the call's own, in a region that draws its order. -/
theorem stepAppF {P : Program} (w : World) {ops : Array Oper} {o : Oper} {a : Act} {K : Act → World → Prop} {Q : Exit → Act → World → Prop} {E : Prop} (hgd : o.guard = none) (s x : Operand) (t : TypeId)
    (ho : o.op = .call { callee := .builtin .append, args := #[s, x], argTypes := #[t, t] })
    (base : Nat) (e : TypeId) (i : TypeInfo) (z : Value) (size bytes : Nat) (ht : P.underlying t = some (.slice e)) (hi : P.info? e = some i) (hz : i.zero = some z)
    (hsize : i.size = size) (hby : i.bytes = bytes) (hzs : z.cells.size = size) (hsz : 0 < size)
    (v : Value) (n : Nat) (xs : List Value) (hs : a.eval s = v) (hown : w.ownsRow base e size v n xs)
    (ad : Addr) (m c : Nat) (news : List Value) (hx : a.eval x = .slice (some ad) m c) (hl : news.length = m * size) (hnews : ∀ j u, news[j]? = some u → w.cell? (ad.add j) = some u) (h1 : ∀ u ∈ news, u.oneCell' = true)
    (h63 : n + m ≤ maxLen) (hbytes : (n + m) * bytes ≤ 140737488355328) (hbase : base ≤ w.heap.size)
    (h : ∀ v' w', w'.ownsRow base e size v' (n + m) (xs ++ news) → w.grownBy w' v.ownBlock → (v' = .slice none 0 0 ↔ v = .slice none 0 0 ∧ m = 0) → (v'.ownBlock = v.ownBlock ∨ v'.ownBlock = some w.heap.size) → K (a.put o.dst v') w') :
    if Region.wanted o (yielded ops a.tmps) = true then Oper.wp P o a w K Q else E := by
  have hw : Region.wanted o (yielded ops a.tmps) = true := by simp [Region.wanted, hgd]
  rw [if_pos hw]
  obtain ⟨v', w', hr, h2, h3, h4, h5⟩ := run_append_own_at (P := P) w base t o.type e i z size bytes ht hi hz hsize hby hzs hsz v n xs hown ad m c news hl hnews h1 h63 hbytes hbase
  unfold Oper.wp
  simp [execOp, ho, resolve, invoke, builtin, hs, hx, hr, Result.andThen]
  exact h v' w' h2 h3 h4 h5
theorem new_three (X : World) (a b c : Int) (t : TypeId) : ∀ k : Nat, k < 3 → ∃ v : Int, (X.alloc (.cells #[.int .i64 a, .int .i64 b, .int .i64 c] t)).drew.cell? ⟨X.heap.size, k, none⟩ = some (.int .i64 v) := fun k hk => by
  have h : Cells (X.alloc (.cells #[.int .i64 a, .int .i64 b, .int .i64 c] t)) X.heap.size [.int .i64 a, .int .i64 b, .int .i64 c] := Cells.new X _ rfl _ _
  match k, hk with
  | 0, _ => exact ⟨a, h.g0.1⟩
  | 1, _ => exact ⟨b, h.g1.1⟩
  | 2, _ => exact ⟨c, h.g2.1⟩
theorem infoF : (Tryz.prog.info? 58).map (fun i => (i.zero, i.size, i.bytes)) = some (some (.agg #[.int .i64 0, .int .i64 0, .int .i64 0]), 3, 24) := by kernel_rfl
theorem m_push (a : Addr) (w : World) : (method 274 91 (.pointer (some a)) "Push").run Tryz.prog w = .ok (142, .pointer (some a)) w := by kernel_rfl
theorem m_pop (a : Addr) (w : World) : (method 274 91 (.pointer (some a)) "Pop").run Tryz.prog w = .ok (141, .pointer (some a)) w := by kernel_rfl
theorem m_len0 (a : Addr) (w : World) : (method 274 91 (.pointer (some a)) "Len").run Tryz.prog w = (do let v ← loadVar 85 a; pure (54, v) : Sem (FuncId × Value)).run Tryz.prog w := by kernel_rfl
theorem m_less0 (a : Addr) (w : World) : (method 274 91 (.pointer (some a)) "Less").run Tryz.prog w = (do let v ← loadVar 85 a; pure (136, v) : Sem (FuncId × Value)).run Tryz.prog w := by kernel_rfl
theorem m_swap0 (a : Addr) (w : World) : (method 274 91 (.pointer (some a)) "Swap").run Tryz.prog w = (do let v ← loadVar 85 a; pure (137, v) : Sem (FuncId × Value)).run Tryz.prog w := by kernel_rfl
theorem m_len {b i : Nat} {x : Option Addr} {n c : Nat} {w : World} (h : w.cell? ⟨b, i, none⟩ = some (.slice x n c)) : (method 274 91 (.pointer (some ⟨b, i, none⟩)) "Len").run Tryz.prog w = .ok (54, .slice x n c) w := by
  rw [m_len0]
  go_simp
theorem m_less {b i : Nat} {x : Option Addr} {n c : Nat} {w : World} (h : w.cell? ⟨b, i, none⟩ = some (.slice x n c)) : (method 274 91 (.pointer (some ⟨b, i, none⟩)) "Less").run Tryz.prog w = .ok (136, .slice x n c) w := by
  rw [m_less0]
  go_simp
theorem m_swap {b i : Nat} {x : Option Addr} {n c : Nat} {w : World} (h : w.cell? ⟨b, i, none⟩ = some (.slice x n c)) : (method 274 91 (.pointer (some ⟨b, i, none⟩)) "Swap").run Tryz.prog w = .ok (137, .slice x n c) w := by
  rw [m_swap0]
  go_simp
set_option maxHeartbeats 400000 in
theorem heapLen (a : Option Addr) (n cap : Nat) (w : World) : Calls Tryz.prog 54 #[.slice a n cap] w fun e w' => e = .returned (.int .i64 (n : Int)) ∧ w' = w := by
  go_enter Tryz.func54, Tryz.ntmps54
  go_wp2
  go_ret
  exact ⟨rfl, rfl⟩
set_option maxHeartbeats 1000000 in
theorem cmpInt (x y : Int) (w : World) : Calls Tryz.prog 139 #[.int .i64 x, .int .i64 y] w fun e w' => ∃ r : Int, e = .returned (.int .i64 r) ∧ w' = w := by
  go_enter Tryz.func139, Tryz.ntmps139
  go_wp2
  all_goals (go_ret; first | exact ⟨_, rfl, rfl⟩ | exact ⟨⟨_, rfl⟩, rfl⟩ | exact rfl)
set_option maxRecDepth 100000 in
set_option maxHeartbeats 1000000 in
theorem cmpOr (g cap : Nat) (w : World) (hv : ∀ k : Nat, k < 3 → ∃ v : Int, w.cell? ⟨g, k, none⟩ = some (.int .i64 v)) : Calls Tryz.prog 138 #[.slice (some ⟨g, 0, none⟩) 3 cap] w fun e w' => ∃ r : Int, e = .returned (.int .i64 r) ∧ w' = w := by
  have HV : Hid (∀ k : Nat, k < 3 → ∃ v : Int, w.cell? ⟨g, k, none⟩ = some (.int .i64 v)) := hv
  clear hv
  go_enter Tryz.func138, Tryz.ntmps138
  go_wp2
  go_loopw [8] (fun i wr => ∃ k : Nat, k ≤ 3 ∧ i = .int .i64 (k : Int) ∧ wr = w) (fun i _ => 3 - (intOf i).toNat)
  case atStart => exact ⟨0, by omega, rfl, rfl⟩
  case round =>
    obtain ⟨k, hk, rfl, rfl⟩ := hrel
    by_cases hlt : k < 3
    · have hki : (k : Int) < 3 := by omega
      obtain ⟨v, hv⟩ := HV.out k hlt
      by_cases hz : v = 0
      · subst hz
        go_wp2
        go_roundw
        case rel => exact ⟨k + 1, by omega, by go_num, by simp⟩
        case measure => simp [intOf]; omega
      · go_wp2
        go_ret
        first | exact ⟨_, rfl, rfl⟩ | exact ⟨⟨_, rfl⟩, rfl⟩ | exact rfl
    · have hki : ¬ (k : Int) < 3 := by omega
      go_wp2
      go_ret
      first | exact ⟨_, rfl, rfl⟩ | exact ⟨⟨_, rfl⟩, rfl⟩ | exact rfl
set_option maxRecDepth 100000 in
set_option maxHeartbeats 4000000 in
theorem heapLess (B0 g c i j : Nat) (T : List Fd) (hi : i < T.length) (hj : j < T.length) (w : World) (hr : RF B0 w (.slice (some ⟨g, 0, none⟩) T.length c) T) :
    Calls Tryz.prog 136 #[.slice (some ⟨g, 0, none⟩) T.length c, .int .i64 (i : Int), .int .i64 (j : Int)] w fun e w' => ∃ b : Bool, e = .returned (.bool b) ∧ Below w.heap.size w w' := by
  have hii : (i : Int) < (T.length : Int) := by omega
  have hji : (j : Int) < (T.length : Int) := by omega
  obtain ⟨a0, a1, a2⟩ := hr.at (List.getElem?_eq_getElem hi)
  obtain ⟨b0, b1, b2⟩ := hr.at (List.getElem?_eq_getElem hj)
  generalize T[i] = x at *
  generalize T[j] = y at *
  obtain ⟨x0, x1, x2⟩ := x
  obtain ⟨y0, y1, y2⟩ := y
  dsimp only at *
  have HK : Hid (∀ X, Below w.heap.size w X → Below w.heap.size w X ∧ X.cell? ⟨g, i * 3, none⟩ = some (.int .i64 x0) ∧ X.cell? ⟨g, i * 3 + 1, none⟩ = some (.int .i64 x1) ∧ X.cell? ⟨g, i * 3 + 2, none⟩ = some (.int .i64 x2) ∧ X.cell? ⟨g, j * 3, none⟩ = some (.int .i64 y0) ∧ X.cell? ⟨g, j * 3 + 1, none⟩ = some (.int .i64 y1) ∧ X.cell? ⟨g, j * 3 + 2, none⟩ = some (.int .i64 y2)) := fun X hX =>
    ⟨hX, (hX.cell (cell_lt a0)).trans a0, (hX.cell (cell_lt a1)).trans a1, (hX.cell (cell_lt a2)).trans a2, (hX.cell (cell_lt b0)).trans b0, (hX.cell (cell_lt b1)).trans b1, (hX.cell (cell_lt b2)).trans b2⟩
  have KD := HK.out _ (Below.refl w.heap.size w).drew
  have KA := fun (l : Array Value) (t : TypeId) => HK.out (w.alloc (.cells l t)).drew ((Below.refl w.heap.size w).alloc (Nat.le_refl _) _).drew
  clear a0 a1 a2 b0 b1 b2 hr
  go_enter Tryz.func136, Tryz.ntmps136
  go_upto_region 1 with fail
  go_region_held3 (fun X => Below w.heap.size w X ∧ X.cell? ⟨g, i * 3, none⟩ = some (.int .i64 x0) ∧ X.cell? ⟨g, i * 3 + 1, none⟩ = some (.int .i64 x1) ∧ X.cell? ⟨g, i * 3 + 2, none⟩ = some (.int .i64 x2) ∧ X.cell? ⟨g, j * 3, none⟩ = some (.int .i64 y0) ∧ X.cell? ⟨g, j * 3 + 1, none⟩ = some (.int .i64 y1) ∧ X.cell? ⟨g, j * 3 + 2, none⟩ = some (.int .i64 y2))
    (first | exact KD | exact KA _ _ | assumption)
    (first
      | (go_at_call 139; refine (cmpInt _ _ _).mono ?_; rintro e wA ⟨r, rfl, rfl⟩)
      | (go_at_call 138; refine (cmpOr _ _ _ (new_three _ _ _ _ _)).mono ?_; rintro e wB ⟨r, rfl, rfl⟩))
  have hb := (KA #[.int .i64 r, .int .i64 r, .int .i64 r] 0).1
  clear hb
  go_wp2
  go_ret
  exact ⟨_, rfl, (KA _ _).1⟩
end Pg
end Go.Proofs.YtinanjjhkddikaaGreat

/- Two finds of the row change places. -/
namespace Go.Proofs.YtinanjjhkddikaaGreat
namespace Pg
open Go.ChangeShapes Go.WideShapes Go.ChangeAt Go.RowKit St Wd
theorem RF.drew {B : Nat} {w : World} {v : Value} {T : List Fd} (h : RF B w v T) : RF B w.drew v T := h
theorem Tcs.drew {S : Nat → Prop} {u w : World} (h : Tcs S u w) : Tcs S u w.drew := ⟨h.os, h.tape, h.output, h.size, h.far⟩
set_option maxRecDepth 100000 in
set_option maxHeartbeats 4000000 in
theorem heapSwap (B0 g c i j : Nat) (T : List Fd) (hi : i < T.length) (hj : j < T.length) (w : World) (hr : RF B0 w (.slice (some ⟨g, 0, none⟩) T.length c) T) :
    Calls Tryz.prog 137 #[.slice (some ⟨g, 0, none⟩) T.length c, .int .i64 (i : Int), .int .i64 (j : Int)] w fun e w' => e = .returned (.tuple #[]) ∧ RF B0 w' (.slice (some ⟨g, 0, none⟩) T.length c) (swapF T i j) ∧ Tcs (fun k => k = g) w w' := by
  have hii : (i : Int) < (T.length : Int) := by omega
  have hji : (j : Int) < (T.length : Int) := by omega
  obtain ⟨a0, a1, a2⟩ := hr.at (List.getElem?_eq_getElem hi)
  obtain ⟨b0, b1, b2⟩ := hr.at (List.getElem?_eq_getElem hj)
  have HF : Hid (∀ k, w.frozen? ⟨g, k, none⟩ = false) := fun k => World.ownsRow.frozenAt hr k
  have HR1 := (RF.put rfl hr i T[j])
  have HR2 := (RF.put (by rw [List.length_set]) HR1 j T[i])
  have HR : Hid (RF B0 ((((((w.setCell ⟨g, i * 3, none⟩ (.int .i64 T[j].1)).setCell ⟨g, i * 3 + 1, none⟩ (.int .i64 T[j].2.1)).setCell ⟨g, i * 3 + 2, none⟩ (.int .i64 T[j].2.2)).setCell ⟨g, j * 3, none⟩ (.int .i64 T[i].1)).setCell ⟨g, j * 3 + 1, none⟩ (.int .i64 T[i].2.1)).setCell ⟨g, j * 3 + 2, none⟩ (.int .i64 T[i].2.2)) (.slice (some ⟨g, 0, none⟩) T.length c) (swapF T i j)) := by
    show RF _ _ _ _
    rw [swapF_eq hi hj]
    exact HR2
  clear HR1 HR2
  have HT : Hid (∀ (u : World) (k : Nat) (v : Value), Tcs (fun k => k = g) w u → Tcs (fun k => k = g) w (u.setCell ⟨g, k, none⟩ v)) := fun u k v h => h.trans (Tcs.set (S := fun k => k = g) u (p := ⟨g, k, none⟩) rfl v)
  have f0 := HF.out (i * 3)
  have f1 := HF.out (i * 3 + 1)
  have f2 := HF.out (i * 3 + 2)
  have g0 := HF.out (j * 3)
  have g1 := HF.out (j * 3 + 1)
  have g2 := HF.out (j * 3 + 2)
  clear hr HF
  by_cases hij : i = j
  · subst hij
    clear b0 b1 b2 g0 g1 g2 hji
    generalize T[i] = x at *
    obtain ⟨x0, x1, x2⟩ := x
    dsimp only at *
    have HT6 := HT.out _ (i * 3 + 2) (.int .i64 x2) (HT.out _ (i * 3 + 1) (.int .i64 x1) (HT.out _ (i * 3) (.int .i64 x0) (HT.out _ (i * 3 + 2) (.int .i64 x2) (HT.out _ (i * 3 + 1) (.int .i64 x1) (HT.out w (i * 3) (.int .i64 x0) (Tcs.refl _ _))))))
    clear HT
    go_enter Tryz.func137, Tryz.ntmps137
    go_upto_region 0 with fail
    go_region_law (fail)
    all_goals
      go_end0
      refine ⟨rfl, ?_, ?_⟩
      · exact RF.drew HR.out
      · exact Tcs.drew HT6
  · have hne : ¬ (i * 3 = j * 3) := by omega
    have hne' : ¬ (j * 3 = i * 3) := by omega
    generalize T[i] = x at *
    generalize T[j] = y at *
    obtain ⟨x0, x1, x2⟩ := x
    obtain ⟨y0, y1, y2⟩ := y
    dsimp only at *
    have HT6 := HT.out _ (j * 3 + 2) (.int .i64 x2) (HT.out _ (j * 3 + 1) (.int .i64 x1) (HT.out _ (j * 3) (.int .i64 x0) (HT.out _ (i * 3 + 2) (.int .i64 y2) (HT.out _ (i * 3 + 1) (.int .i64 y1) (HT.out w (i * 3) (.int .i64 y0) (Tcs.refl _ _))))))
    clear HT
    go_enter Tryz.func137, Tryz.ntmps137
    go_upto_region 0 with fail
    go_region_law (fail)
    all_goals
      go_end0
      refine ⟨rfl, ?_, ?_⟩
      · exact RF.drew HR.out
      · exact Tcs.drew HT6
end Pg
end Go.Proofs.YtinanjjhkddikaaGreat

/- The library's up and down over the row of finds: the same finds stay. -/
namespace Go.Proofs.YtinanjjhkddikaaGreat
namespace Pg
open Go.ChangeShapes Go.WideShapes Go.ChangeAt Go.RowKit St Wd
theorem lessN (B0 g c i j n : Nat) (T : List Fd) (hn : T.length = n) (hi : i < n) (hj : j < n) (w : World) (hr : RF B0 w (.slice (some ⟨g, 0, none⟩) n c) T) :
    Calls Tryz.prog 136 #[.slice (some ⟨g, 0, none⟩) n c, .int .i64 (i : Int), .int .i64 (j : Int)] w fun e w' => ∃ b : Bool, e = .returned (.bool b) ∧ Below w.heap.size w w' := by
  subst hn
  exact heapLess B0 g c i j T hi hj w hr
theorem swapN (B0 g c i j n : Nat) (T : List Fd) (hn : T.length = n) (hi : i < n) (hj : j < n) (w : World) (hr : RF B0 w (.slice (some ⟨g, 0, none⟩) n c) T) :
    Calls Tryz.prog 137 #[.slice (some ⟨g, 0, none⟩) n c, .int .i64 (i : Int), .int .i64 (j : Int)] w fun e w' => e = .returned (.tuple #[]) ∧ RF B0 w' (.slice (some ⟨g, 0, none⟩) n c) (swapF T i j) ∧ (swapF T i j).Perm T ∧ (swapF T i j).length = n ∧ Tcs (fun k => k = g) w w' := by
  subst hn
  refine (heapSwap B0 g c i j T hi hj w hr).mono ?_
  rintro e w' ⟨rfl, h1, h2⟩
  exact ⟨rfl, h1, swapF_perm hi hj, swapF_len T i j, h2⟩
theorem cell_off {g sb i : Nat} {u w : World} {v : Value} (h : Tcs (fun k => k = g) u w) (hne : sb ≠ g) (hc : u.cell? ⟨sb, i, none⟩ = some v) : w.cell? ⟨sb, i, none⟩ = some v :=
  (World.cell?_of_block (w := u) (h.far sb (cell_lt hc) (fun e => hne e))).trans hc
set_option maxRecDepth 100000 in
set_option maxHeartbeats 4000000 in
theorem heapUp (B0 sb g c j n : Nat) (T : List Fd) (hT : T.length = n) (hn : n ≤ 1000) (hsb : sb ≠ g) (hj : j < n) (w : World) (hc : w.cell? ⟨sb, 2, none⟩ = some (.slice (some ⟨g, 0, none⟩) n c)) (hr : RF B0 w (.slice (some ⟨g, 0, none⟩) n c) T) :
    Calls Tryz.prog 90 #[.iface 91 (.pointer (some ⟨sb, 2, none⟩)), .int .i64 (j : Int)] w fun e w' => e = .returned (.tuple #[]) ∧ ∃ T' : List Fd, T'.Perm T ∧ RF B0 w' (.slice (some ⟨g, 0, none⟩) n c) T' ∧ Tcs (fun k => k = g) w w' := by
  have HR : Hid (RF B0 w (.slice (some ⟨g, 0, none⟩) n c) T) := hr
  have HC : Hid (w.cell? ⟨sb, 2, none⟩ = some (.slice (some ⟨g, 0, none⟩) n c)) := hc
  clear hr hc
  go_enter Tryz.func90, Tryz.ntmps90
  go_wp2
  go_loopw [1] (fun x wr => ∃ (k : Nat) (T' : List Fd), k < n ∧ x = .int .i64 (k : Int) ∧ Hid (T'.Perm T) ∧ T'.length = n ∧ Hid (RF B0 wr (.slice (some ⟨g, 0, none⟩) n c) T') ∧ Hid (Tcs (fun k => k = g) w wr)) (fun x _ => (intOf x).toNat)
  case atStart => exact ⟨j, T, hj, rfl, List.Perm.refl _, hT, HR.out, Tcs.refl _ _⟩
  case round =>
    clear HR
    obtain ⟨k, T', hk, rfl, hp, hl, hr, ht⟩ := hrel
    have hcr := cell_off ht.out hsb HC.out
    by_cases hk0 : k = 0
    · subst hk0
      have hq : ((-1 : Int)).tdiv 2 = 0 := rfl
      go_wp2
      go_end0
      exact ⟨rfl, T', hp.out, hr.out, ht.out⟩
    · have hk1 : 1 ≤ (k : Int) := by omega
      obtain ⟨q, hqe⟩ : ∃ q : Nat, q = (k - 1) / 2 := ⟨_, rfl⟩
      have hqk : q < k := by omega
      have hq : ((k : Int) - 1).tdiv 2 = (q : Int) := by rw [show (k : Int) - 1 = ((k - 1 : Nat) : Int) by omega, hqe]; rfl
      have hqi : ¬ (q : Int) = (k : Int) := by omega
      clear hqe
      have hm := m_less hcr
      go_wp2_with fail
      refine (lessN B0 g c k q n T' hl (by omega) (by omega) wr hr.out).mono ?_
      rintro e w1 ⟨b, rfl, hb1⟩
      have hr1 : Hid (RF B0 w1 (.slice (some ⟨g, 0, none⟩) n c) T') := hr.out.on hb1
      have ht1 : Hid (Tcs (fun k => k = g) w w1) := ht.out.trans (Tcs.of hb1)
      have hc1 := cell_off ht1.out hsb HC.out
      have hm1 := m_swap hc1
      clear hm hr ht hb1 hcr
      cases b
      · go_wp2
        go_end0
        exact ⟨rfl, T', hp.out, hr1.out, ht1.out⟩
      · go_wp2_with fail
        refine (swapN B0 g c q k n T' hl (by omega) (by omega) w1 hr1.out).mono ?_
        rintro e w2 ⟨rfl, hr2, hp2, hl2, ht2⟩
        have HR2 : Hid (RF B0 w2 (.slice (some ⟨g, 0, none⟩) n c) (swapF T' q k)) := hr2
        have HT2 : Hid (Tcs (fun k => k = g) w w2) := ht1.out.trans ht2
        have HP2 : Hid ((swapF T' q k).Perm T) := hp2.trans hp.out
        clear hr2 ht2 hp2 hr1 ht1 hc1 hm1
        go_wp2
        go_roundw
        case rel => exact ⟨q, swapF T' q k, by omega, rfl, HP2.out, hl2, HR2.out, HT2.out⟩
        case measure => simp [intOf]; omega
end Pg
end Go.Proofs.YtinanjjhkddikaaGreat

/- The library's down over the row of finds; Push and Pop. -/
namespace Go.Proofs.YtinanjjhkddikaaGreat
namespace Pg
open Go.ChangeShapes Go.WideShapes Go.ChangeAt Go.RowKit St Wd
set_option maxRecDepth 100000 in
set_option maxHeartbeats 8000000 in
theorem heapDown (B0 sb g c n m : Nat) (T : List Fd) (hT : T.length = n) (hn : n ≤ 1000) (hm : m ≤ n) (hsb : sb ≠ g) (w : World) (hc : w.cell? ⟨sb, 2, none⟩ = some (.slice (some ⟨g, 0, none⟩) n c)) (hr : RF B0 w (.slice (some ⟨g, 0, none⟩) n c) T) :
    Calls Tryz.prog 82 #[.iface 91 (.pointer (some ⟨sb, 2, none⟩)), .int .i64 0, .int .i64 (m : Int)] w fun e w' => ∃ (r : Bool) (T' : List Fd), e = .returned (.bool r) ∧ T'.Perm T ∧ T'.length = n ∧ RF B0 w' (.slice (some ⟨g, 0, none⟩) n c) T' ∧ Tcs (fun k => k = g) w w' := by
  have HR : Hid (RF B0 w (.slice (some ⟨g, 0, none⟩) n c) T) := hr
  have HC : Hid (w.cell? ⟨sb, 2, none⟩ = some (.slice (some ⟨g, 0, none⟩) n c)) := hc
  clear hr hc
  go_enter Tryz.func82, Tryz.ntmps82
  go_wp2
  go_loopw [7] (fun x wr => ∃ (k : Nat) (T' : List Fd), k ≤ m ∧ x = .int .i64 (k : Int) ∧ Hid (T'.Perm T) ∧ T'.length = n ∧ Hid (RF B0 wr (.slice (some ⟨g, 0, none⟩) n c) T') ∧ Hid (Tcs (fun k => k = g) w wr)) (fun x _ => m - (intOf x).toNat)
  case atStart => exact ⟨0, T, Nat.zero_le _, rfl, List.Perm.refl _, hT, HR.out, Tcs.refl _ _⟩
  case round =>
    clear HR
    obtain ⟨k, T', hk, rfl, hp, hl, hr, ht⟩ := hrel
    have hcr := cell_off ht.out hsb HC.out
    by_cases h1 : (m : Int) ≤ 2 * (k : Int) + 1
    · have hge : 2 * (k : Int) + 1 ≥ (m : Int) := h1
      go_wp2
      go_ret
      first | exact ⟨_, T', rfl, hp.out, hl, hr.out, ht.out⟩ | exact ⟨⟨_, rfl⟩, T', hp.out, hl, hr.out, ht.out⟩
    · have hge : ¬ 2 * (k : Int) + 1 ≥ (m : Int) := h1
      by_cases h2 : 2 * (k : Int) + 1 + 1 < (m : Int)
      · have hm0 := m_less hcr
        go_wp2_with fail
        have hL := lessN B0 g c (2 * k + 2) (2 * k + 1) n T' hl (by omega) (by omega) wr hr.out
        rw [show ((2 * k + 2 : Nat) : Int) = 2 * (k : Int) + 1 + 1 by omega, show ((2 * k + 1 : Nat) : Int) = 2 * (k : Int) + 1 by omega] at hL
        refine hL.mono ?_
        rintro e w3 ⟨b, rfl, hb3⟩
        have hr3 : Hid (RF B0 w3 (.slice (some ⟨g, 0, none⟩) n c) T') := hr.out.on hb3
        have ht3 : Hid (Tcs (fun k => k = g) w w3) := ht.out.trans (Tcs.of hb3)
        have hc3 := cell_off ht3.out hsb HC.out
        clear hL hm0 hr ht hb3 hcr
        cases b
        · obtain ⟨J, hJ⟩ : ∃ J : Nat, 2 * (k : Int) + 1 = (J : Int) := ⟨2 * k + 1, by omega⟩
          rw [hJ] at hge h2 ⊢
          have hJm : J < m := by omega
          have hJk : k < J := by omega
          have hm3 := m_less hc3
          go_wp2_with fail
          refine (lessN B0 g c J k n T' hl (by omega) (by omega) w3 hr3.out).mono ?_
          rintro e w5 ⟨b, rfl, hb5⟩
          have hr5 : Hid (RF B0 w5 (.slice (some ⟨g, 0, none⟩) n c) T') := hr3.out.on hb5
          have ht5 : Hid (Tcs (fun k => k = g) w w5) := ht3.out.trans (Tcs.of hb5)
          have hc5 := cell_off ht5.out hsb HC.out
          have hm5 := m_swap hc5
          clear hm3 hr3 ht3 hb5 hc3
          cases b
          · go_wp2
            go_ret
            first | exact ⟨_, T', rfl, hp.out, hl, hr5.out, ht5.out⟩ | exact ⟨⟨_, rfl⟩, T', hp.out, hl, hr5.out, ht5.out⟩
          · go_wp2_with fail
            refine (swapN B0 g c k J n T' hl (by omega) (by omega) w5 hr5.out).mono ?_
            rintro e w6 ⟨rfl, hr6, hp6, hl6, ht6⟩
            have HR6 : Hid (RF B0 w6 (.slice (some ⟨g, 0, none⟩) n c) (swapF T' k J)) := hr6
            have HT6 : Hid (Tcs (fun k => k = g) w w6) := ht5.out.trans ht6
            have HP6 : Hid ((swapF T' k J).Perm T) := hp6.trans hp.out
            clear hr6 ht6 hp6 hr5 ht5 hc5 hm5
            go_wp2
            go_roundw
            case rel => exact ⟨J, swapF T' k J, by omega, rfl, HP6.out, hl6, HR6.out, HT6.out⟩
            case measure => simp [intOf]; omega

        · obtain ⟨J, hJ⟩ : ∃ J : Nat, 2 * (k : Int) + 1 + 1 = (J : Int) := ⟨2 * k + 2, by omega⟩
          have hJm : J < m := by omega
          have hJk : k < J := by omega
          rw [hJ] at h2 ⊢
          have hm3 := m_less hc3
          go_wp2_with fail
          refine (lessN B0 g c J k n T' hl (by omega) (by omega) w3 hr3.out).mono ?_
          rintro e w5 ⟨b, rfl, hb5⟩
          have hr5 : Hid (RF B0 w5 (.slice (some ⟨g, 0, none⟩) n c) T') := hr3.out.on hb5
          have ht5 : Hid (Tcs (fun k => k = g) w w5) := ht3.out.trans (Tcs.of hb5)
          have hc5 := cell_off ht5.out hsb HC.out
          have hm5 := m_swap hc5
          clear hm3 hr3 ht3 hb5 hc3
          cases b
          · go_wp2
            go_ret
            first | exact ⟨_, T', rfl, hp.out, hl, hr5.out, ht5.out⟩ | exact ⟨⟨_, rfl⟩, T', hp.out, hl, hr5.out, ht5.out⟩
          · go_wp2_with fail
            refine (swapN B0 g c k J n T' hl (by omega) (by omega) w5 hr5.out).mono ?_
            rintro e w6 ⟨rfl, hr6, hp6, hl6, ht6⟩
            have HR6 : Hid (RF B0 w6 (.slice (some ⟨g, 0, none⟩) n c) (swapF T' k J)) := hr6
            have HT6 : Hid (Tcs (fun k => k = g) w w6) := ht5.out.trans ht6
            have HP6 : Hid ((swapF T' k J).Perm T) := hp6.trans hp.out
            clear hr6 ht6 hp6 hr5 ht5 hc5 hm5
            go_wp2
            go_roundw
            case rel => exact ⟨J, swapF T' k J, by omega, rfl, HP6.out, hl6, HR6.out, HT6.out⟩
            case measure => simp [intOf]; omega

      · have hm0 := m_less hcr
        obtain ⟨J, hJ⟩ : ∃ J : Nat, 2 * (k : Int) + 1 = (J : Int) := ⟨2 * k + 1, by omega⟩
        have hJm : J < m := by omega
        have hJk : k < J := by omega
        have hmr := hm0
        clear hm0
        go_wp2_with fail
        refine (lessN B0 g c J k n T' hl (by omega) (by omega) wr hr.out).mono ?_
        rintro e w5 ⟨b, rfl, hb5⟩
        have hr5 : Hid (RF B0 w5 (.slice (some ⟨g, 0, none⟩) n c) T') := hr.out.on hb5
        have ht5 : Hid (Tcs (fun k => k = g) w w5) := ht.out.trans (Tcs.of hb5)
        have hc5 := cell_off ht5.out hsb HC.out
        have hm5 := m_swap hc5
        clear hmr hr ht hb5 hcr
        cases b
        · go_wp2
          go_ret
          first | exact ⟨_, T', rfl, hp.out, hl, hr5.out, ht5.out⟩ | exact ⟨⟨_, rfl⟩, T', hp.out, hl, hr5.out, ht5.out⟩
        · go_wp2_with fail
          refine (swapN B0 g c k J n T' hl (by omega) (by omega) w5 hr5.out).mono ?_
          rintro e w6 ⟨rfl, hr6, hp6, hl6, ht6⟩
          have HR6 : Hid (RF B0 w6 (.slice (some ⟨g, 0, none⟩) n c) (swapF T' k J)) := hr6
          have HT6 : Hid (Tcs (fun k => k = g) w w6) := ht5.out.trans ht6
          have HP6 : Hid ((swapF T' k J).Perm T) := hp6.trans hp.out
          clear hr6 ht6 hp6 hr5 ht5 hc5 hm5
          go_wp2
          go_roundw
          case rel => exact ⟨J, swapF T' k J, by omega, rfl, HP6.out, hl6, HR6.out, HT6.out⟩
          case measure => simp [intOf]; omega
end Pg
end Go.Proofs.YtinanjjhkddikaaGreat

/- The row of finds: its own Push and Pop. -/
namespace Go.Proofs.YtinanjjhkddikaaGreat
namespace Pg
open Go.ChangeShapes Go.WideShapes Go.ChangeAt Go.RowKit St Wd
theorem cell_threeF (w : World) (a b c : Value) (t : TypeId) : ∀ (j : Nat) (u : Value), [a, b, c][j]? = some u → (w.alloc (.cells #[a, b, c] t)).cell? ((⟨w.heap.size, 0, none⟩ : Addr).add j) = some u := fun j u h => by
  have k : Cells (w.alloc (.cells #[a, b, c] t)) w.heap.size [a, b, c] := Cells.new w _ rfl _ _
  rw [Go.WideShapes.add_plain, Nat.zero_add]
  exact (k j u h).1
theorem Cells.grownF {u v : World} {k : Nat} {x : Value} {vs : List Value} {row : Option Nat} (h : Cells u k (x :: vs)) (hg : u.grownBy v row) (hne : row ≠ some k) : Cells v k (x :: vs) := fun i y hy => by
  have hk : k < u.heap.size := cell_lt h.g0.1
  have e := hg.block k hk (fun q => hne q.symm)
  obtain ⟨h1, h2⟩ := h i y hy
  exact ⟨(World.cell?_of_block (w := u) e).trans h1, (World.frozen?_of_block (w := u) e).trans h2⟩
theorem rf_snoc {B : Nat} {w : World} {v : Value} {T : List Fd} {f : Fd} (h : w.ownsRow B 58 3 v (T.length + 1) (flatF T ++ [.int .i64 f.1, .int .i64 f.2.1, .int .i64 f.2.2])) : RF B w v (T ++ [f]) := by
  unfold RF
  rw [flatF_app, List.length_append]
  exact h
theorem RF.setF {B : Nat} {w : World} {v : Value} {T : List Fd} (h : RF B w v T) {p : Addr} (hp : v.ownBlock ≠ Option.some p.block) (x : Value) : RF B (w.setCell p x) v T :=
  h.kept (row := Option.some p.block) ⟨rfl, rfl, rfl, by simp, fun k _ hk => Below.heap_setCell w p x k (fun e => hk (by rw [e]))⟩ (.inr hp)
theorem Tcs.grownF {S : Nat → Prop} {u x w : World} {row : Option Nat} (h : Below u.heap.size u x) (hg : x.grownBy w row) (hS : ∀ k, row = some k → S k) : Tcs S u w :=
  ⟨hg.os.trans h.os, hg.tape.trans h.tape, hg.output.trans h.output, Nat.le_trans h.size hg.size, fun k hk hn => (hg.block k (Nat.lt_of_lt_of_le hk h.size) (fun e => hn (hS k e.symm))).trans (h.block k hk)⟩
theorem ta_find (f : Fd) (w : World) : (Instr.typeAssert (.iface 58 (fdV f)) 20 58 false).run Tryz.prog w = .ok (fdV f) w := by kernel_rfl
set_option maxRecDepth 100000 in
set_option maxHeartbeats 4000000 in
theorem findPush (B0 sb : Nat) (x y v : Value) (T : List Fd) (f : Fd) (hn : T.length ≤ 1000) (w : World) (hs : Cells w sb [x, y, v]) (hr : RF B0 w v T) (hB0 : B0 ≤ w.heap.size) (ho : v.ownBlock ≠ some sb) :
    Calls Tryz.prog 142 #[.pointer (some ⟨sb, 2, none⟩), .iface 58 (fdV f)] w fun e w' => e = .returned (.tuple #[]) ∧ ∃ v', Cells w' sb [x, y, v'] ∧ RF B0 w' v' (T ++ [f]) ∧ (v'.ownBlock = v.ownBlock ∨ ∀ g, v'.ownBlock = some g → w.heap.size ≤ g) ∧ Tcs (fun k => k = sb ∨ v.ownBlock = some k) w w' := by
  obtain ⟨i0, hif, hz0, hz1, hz2⟩ := info_parts infoF
  obtain ⟨f0, f1, f2⟩ := f
  obtain ⟨a, c, rfl⟩ := hr.form
  obtain ⟨s2, t2⟩ := hs.g2
  have HS : Hid (Cells w sb [x, y, .slice a T.length c]) := hs
  have HR : Hid (RF B0 w (.slice a T.length c) T) := hr
  have hsl : sb < w.heap.size := cell_lt s2
  clear hs hr
  have hta := ta_find (f0, f1, f2) w
  have htd := ta_find (f0, f1, f2) w.drew
  go_enter Tryz.func142, Tryz.ntmps142
  go_upto_region 0 with fail
  go_region_law (first
    | (refine stepAppF _ rfl (.tmp 7) (.tmp 10) 85 rfl B0 58 i0 (.agg #[.int .i64 0, .int .i64 0, .int .i64 0]) 3 24 Tryz.underlying85 hif hz0 hz1 hz2 rfl (by decide) (.slice a T.length c) T.length (flatF T) (by first | rfl | simp [Act.eval, Act.put]) (HR.out.alloc _) ⟨w.heap.size, 0, none⟩ 1 1 [.int .i64 f0, .int .i64 f1, .int .i64 f2] (by first | rfl | simp [Act.eval, Act.put]) rfl (cell_threeF w.drew _ _ _ _) (by simp [Value.oneCell']) (by unfold maxLen; omega) (by omega) (by simp; omega) ?_; intro v3 w3 hown3 hgrow3 hnil3 hat3; have hq3 : RF B0 w3 v3 (T ++ [(f0, f1, f2)]) := rf_snoc hown3; have hc3 := (HS.out.on (((Below.refl w.heap.size w).drew).alloc (Nat.le_refl _) _)).grownF hgrow3 ho; obtain ⟨a3, d3, he3⟩ := hq3.form; have he4 : v3 = .slice a3 (T.length + 1) d3 := (by rw [he3]; simp); subst he4; clear he3; obtain ⟨q2, r2⟩ := hc3.g2))
  all_goals
    have hc4 := hc3.s2 (.slice a3 (T.length + 1) d3)
    have ho3 : (Value.slice a3 (T.length + 1) d3).ownBlock ≠ some sb := fun e => by
      rcases hat3 with h | h
      · exact ho (h ▸ e)
      · rw [h] at e; simp at e; omega
    have hq4 : RF B0 (w3.setCell ⟨sb, 2, none⟩ (.slice a3 (T.length + 1) d3)) (.slice a3 (T.length + 1) d3) (T ++ [(f0, f1, f2)]) := RF.setF hq3 (p := ⟨sb, 2, none⟩) ho3 _
    have ht3 : Tcs (fun k => k = sb ∨ (Value.slice a T.length c).ownBlock = some k) w w3 := Tcs.grownF (((Below.refl w.heap.size w).drew).alloc (Nat.le_refl _) _) hgrow3 (fun k e => .inr e)
    have ht4 := ht3.trans (Tcs.set (S := fun k => k = sb ∨ (Value.slice a T.length c).ownBlock = some k) w3 (p := ⟨sb, 2, none⟩) (.inl rfl) (.slice a3 (T.length + 1) d3))
    have hat4 : (Value.slice a3 (T.length + 1) d3).ownBlock = (Value.slice a T.length c).ownBlock ∨ ∀ g, (Value.slice a3 (T.length + 1) d3).ownBlock = some g → w.heap.size ≤ g := by
      rcases hat3 with h | h
      · exact .inl h
      · exact .inr fun g e => by rw [h] at e; simp at e; omega
    go_end0
    exact ⟨rfl, _, hc4, hq4, hat4, ht4⟩
end Pg
end Go.Proofs.YtinanjjhkddikaaGreat

/- The row of finds: Pop; the library's Push and Pop over it. -/
namespace Go.Proofs.YtinanjjhkddikaaGreat
namespace Pg
open Go.ChangeShapes Go.WideShapes Go.ChangeAt Go.RowKit St Wd
theorem last_of {T : List Fd} {n : Nat} (h : T.length = n + 1) : ∃ (T' : List Fd) (f : Fd), T = T' ++ [f] ∧ T'.length = n := by
  have hne : T ≠ [] := fun e => by rw [e] at h; simp at h
  refine ⟨T.dropLast, T.getLast hne, (List.dropLast_concat_getLast hne).symm, ?_⟩
  rw [List.length_dropLast, h]; rfl
set_option maxRecDepth 100000 in
set_option maxHeartbeats 4000000 in
theorem findPop (B0 sb g c n : Nat) (x y : Value) (T : List Fd) (f : Fd) (hT : T.length = n) (hn : n ≤ 1000) (hsb : sb ≠ g) (w : World) (hs : Cells w sb [x, y, .slice (some ⟨g, 0, none⟩) (n + 1) c]) (hr : RF B0 w (.slice (some ⟨g, 0, none⟩) (n + 1) c) (T ++ [f])) :
    Calls Tryz.prog 141 #[.pointer (some ⟨sb, 2, none⟩)] w fun e w' => e = .returned (.iface 58 (fdV f)) ∧ Cells w' sb [x, y, .slice (some ⟨g, 0, none⟩) n c] ∧ RF B0 w' (.slice (some ⟨g, 0, none⟩) n c) T ∧ Tcs (fun k => k = sb) w w' := by
  have hlen : (T ++ [f]).length = n + 1 := by simp [hT]
  have hr' := hr
  rw [← hlen] at hr'
  obtain ⟨a0, a1, a2⟩ := hr'.at (j := n) (f := f) (by rw [← hT]; simp)
  have hnc : n + 1 ≤ c := by
    obtain ⟨g', c', e, _, _, h, _⟩ := hr'.some (by rw [hlen]; omega)
    rw [hlen] at e h
    injection e with e1 e2 e3
    omega
  obtain ⟨s2, t2⟩ := hs.g2
  obtain ⟨f0, f1, f2⟩ := f
  dsimp only at *
  have h0 : Cells (w.setCell ⟨sb, 2, none⟩ (.slice (some ⟨g, 0, none⟩) n c)) sb [x, y, .slice (some ⟨g, 0, none⟩) n c] := hs.s2 _
  have h4 : RF B0 (w.setCell ⟨sb, 2, none⟩ (.slice (some ⟨g, 0, none⟩) n c)) (.slice (some ⟨g, 0, none⟩) n c) T := (RF.pop hT.symm hr).setF (p := ⟨sb, 2, none⟩) (fun e => hsb (by simpa [Value.ownBlock] using e.symm)) _
  have h5 : Tcs (fun k => k = sb) w (w.setCell ⟨sb, 2, none⟩ (.slice (some ⟨g, 0, none⟩) n c)) := Tcs.set (S := fun k => k = sb) w (p := ⟨sb, 2, none⟩) rfl _
  have hF : ∀ o, Cells ((w.setCell ⟨sb, 2, none⟩ (.slice (some ⟨g, 0, none⟩) n c)).alloc o) sb [x, y, .slice (some ⟨g, 0, none⟩) n c] ∧ RF B0 ((w.setCell ⟨sb, 2, none⟩ (.slice (some ⟨g, 0, none⟩) n c)).alloc o) (.slice (some ⟨g, 0, none⟩) n c) T ∧ Tcs (fun k => k = sb) w ((w.setCell ⟨sb, 2, none⟩ (.slice (some ⟨g, 0, none⟩) n c)).alloc o) := fun o =>
    ⟨h0.alloc _, h4.on ((Below.refl _ _).alloc (Nat.le_refl _) _), h5.trans (Tcs.of ((Below.refl _ _).alloc (Nat.le_refl _) _))⟩
  have HFF : Hid (∀ o, Cells ((w.setCell ⟨sb, 2, none⟩ (.slice (some ⟨g, 0, none⟩) n c)).alloc o) sb [x, y, .slice (some ⟨g, 0, none⟩) n c] ∧ RF B0 ((w.setCell ⟨sb, 2, none⟩ (.slice (some ⟨g, 0, none⟩) n c)).alloc o) (.slice (some ⟨g, 0, none⟩) n c) T ∧ Tcs (fun k => k = sb) w ((w.setCell ⟨sb, 2, none⟩ (.slice (some ⟨g, 0, none⟩) n c)).alloc o)) := hF
  have v2 : (w.alloc (.cells #[.int .i64 f0, .int .i64 f1, .int .i64 f2] 58)).cell? ⟨sb, 2, none⟩ = some (.slice (some ⟨g, 0, none⟩) (n + 1) c) := (hs.alloc _).g2.1
  have u2 : (w.alloc (.cells #[.int .i64 f0, .int .i64 f1, .int .i64 f2] 58)).frozen? ⟨sb, 2, none⟩ = false := (hs.alloc _).g2.2
  have hlt : sb < w.heap.size := cell_lt s2
  clear hs hr hr' hlen h0 h4 h5 hF
  have hni : (n : Int) < ((n + 1 : Nat) : Int) := by omega
  go_enter Tryz.func141, Tryz.ntmps141
  go_wp2
  go_ret
  obtain ⟨h1, h2, h3⟩ := HFF.out (.cells #[.int .i64 f0, .int .i64 f1, .int .i64 f2] 58)
  exact ⟨rfl, h1, h2, h3⟩
set_option maxRecDepth 100000 in
set_option maxHeartbeats 4000000 in
theorem heapPush (B0 sb : Nat) (x y v : Value) (T : List Fd) (f : Fd) (hn : T.length ≤ 900) (w : World) (hs : Cells w sb [x, y, v]) (hr : RF B0 w v T) (hB0 : B0 ≤ w.heap.size) (ho : v.ownBlock ≠ some sb) :
    Calls Tryz.prog 77 #[.iface 91 (.pointer (some ⟨sb, 2, none⟩)), .iface 58 (fdV f)] w fun e w' => e = .returned (.tuple #[]) ∧ ∃ v' T', Cells w' sb [x, y, v'] ∧ RF B0 w' v' T' ∧ T'.Perm (f :: T) ∧ (v'.ownBlock = v.ownBlock ∨ ∀ g, v'.ownBlock = some g → w.heap.size ≤ g) ∧ Tcs (fun k => k = sb ∨ v.ownBlock = some k) w w' := by
  have hm := m_push ⟨sb, 2, none⟩ w
  have hsl : sb < w.heap.size := cell_lt hs.g0.1
  go_enter Tryz.func77, Tryz.ntmps77
  go_wp2_with fail
  refine (findPush B0 sb x y v T f (by omega) w hs hr hB0 ho).mono ?_
  rintro e w1 ⟨rfl, v1, hs1, hr1, hv1, ht1⟩
  obtain ⟨g, c, rfl, hg1, hg2, hg3, hg4⟩ := hr1.some (by simp)
  have hsb : sb ≠ g := fun e => by
    rcases hv1 with h | h
    · exact ho (h ▸ (by rw [e]; rfl))
    · have := h g rfl; omega
  have hlen : (T ++ [f]).length = T.length + 1 := by simp
  rw [hlen] at hs1 hr1 hv1
  have hc1 := hs1.g2.1
  have hm1 := m_len hc1
  have HS1 : Hid (Cells w1 sb [x, y, .slice (some ⟨g, 0, none⟩) (T.length + 1) c]) := hs1
  have HR1 : Hid (RF B0 w1 (.slice (some ⟨g, 0, none⟩) (T.length + 1) c) (T ++ [f])) := hr1
  have HT1 : Hid (Tcs (fun k => k = sb ∨ v.ownBlock = some k) w w1) := ht1
  have HV1 : Hid ((Value.slice (some ⟨g, 0, none⟩) (T.length + 1) c).ownBlock = v.ownBlock ∨ ∀ g', (Value.slice (some ⟨g, 0, none⟩) (T.length + 1) c).ownBlock = some g' → w.heap.size ≤ g') := hv1
  clear hm hs hr hs1 hr1 ht1 hv1 hg3 hg4
  go_wp2_with fail
  refine (heapLen _ _ _ w1).mono ?_
  rintro e w2 ⟨rfl, rfl⟩
  clear hm1
  go_wp2_with fail
  refine (heapUp B0 sb g c T.length (T.length + 1) (T ++ [f]) hlen (by omega) hsb (by omega) w2 hc1 HR1.out).mono ?_
  rintro e w3 ⟨rfl, T3, hp3, hr3, ht3⟩
  have hfin : ∃ v' T', Cells w3 sb [x, y, v'] ∧ RF B0 w3 v' T' ∧ T'.Perm (f :: T) ∧ (v'.ownBlock = v.ownBlock ∨ ∀ g, v'.ownBlock = some g → w.heap.size ≤ g) ∧ Tcs (fun k => k = sb ∨ v.ownBlock = some k) w w3 := by
    refine ⟨_, T3, HS1.out.tcs ht3 hsb, hr3, hp3.trans (List.perm_append_singleton f T), HV1.out, ?_⟩
    refine ⟨ht3.os.trans HT1.out.os, ht3.tape.trans HT1.out.tape, ht3.output.trans HT1.out.output, Nat.le_trans HT1.out.size ht3.size, fun k hk hn => ?_⟩
    refine (ht3.far k (Nat.lt_of_lt_of_le hk HT1.out.size) (fun e => ?_)).trans (HT1.out.far k hk hn)
    rcases HV1.out with h | h
    · exact hn (.inr (h ▸ (by rw [e]; rfl)))
    · have := h g rfl; omega
  clear hr3 ht3 hp3 hc1
  go_wp2
  go_end0
  exact ⟨rfl, hfin⟩
set_option maxRecDepth 100000 in
set_option maxHeartbeats 4000000 in
theorem heapPop (B0 sb g c n : Nat) (x y : Value) (T : List Fd) (hT : T.length = n + 1) (hn : n ≤ 900) (hsb : sb ≠ g) (w : World) (hs : Cells w sb [x, y, .slice (some ⟨g, 0, none⟩) (n + 1) c]) (hr : RF B0 w (.slice (some ⟨g, 0, none⟩) (n + 1) c) T) :
    Calls Tryz.prog 56 #[.iface 91 (.pointer (some ⟨sb, 2, none⟩))] w fun e w' => ∃ (f : Fd) (T' : List Fd), e = .returned (.iface 58 (fdV f)) ∧ (f :: T').Perm T ∧ T'.length = n ∧ Cells w' sb [x, y, .slice (some ⟨g, 0, none⟩) n c] ∧ RF B0 w' (.slice (some ⟨g, 0, none⟩) n c) T' ∧ Tcs (fun k => k = sb ∨ k = g) w w' := by
  have hc := hs.g2.1
  have hm := m_len hc
  have HS : Hid (Cells w sb [x, y, .slice (some ⟨g, 0, none⟩) (n + 1) c]) := hs
  have HR : Hid (RF B0 w (.slice (some ⟨g, 0, none⟩) (n + 1) c) T) := hr
  clear hs hr
  go_enter Tryz.func56, Tryz.ntmps56
  go_wp2_with fail
  refine (heapLen _ _ _ w).mono ?_
  rintro e w0 ⟨rfl, rfl⟩
  clear hm
  have hm := m_swap hc
  go_wp2_with fail
  have hsw := swapN B0 g c 0 n (n + 1) T hT (by omega) (by omega) w0 HR.out
  rw [show ((0 : Nat) : Int) = 0 from rfl] at hsw
  refine hsw.mono ?_
  rintro e w2 ⟨rfl, hr2, hp2, hl2, ht2⟩
  have hc2 := cell_off ht2 hsb hc
  have HR2 : Hid (RF B0 w2 (.slice (some ⟨g, 0, none⟩) (n + 1) c) (swapF T 0 n)) := hr2
  have HT2 : Hid (Tcs (fun k => k = g) w0 w2) := ht2
  clear hm hsw hr2 ht2 HR
  go_wp2_with fail
  refine (heapDown B0 sb g c (n + 1) n (swapF T 0 n) hl2 (by omega) (by omega) hsb w2 hc2 HR2.out).mono ?_
  rintro e w3 ⟨r, T3, rfl, hp3, hl3, hr3, ht3⟩
  obtain ⟨T', f, rfl, hl'⟩ := last_of hl3
  have HS3 : Cells w3 sb [x, y, .slice (some ⟨g, 0, none⟩) (n + 1) c] := HS.out.tcs (HT2.out.trans ht3) hsb
  have hm3 := m_pop ⟨sb, 2, none⟩ w3
  have HT3 : Hid (Tcs (fun k => k = g) w0 w3) := HT2.out.trans ht3
  have HP3 : Hid ((f :: T').Perm T) := ((List.perm_append_singleton f T').symm.trans hp3).trans hp2
  clear ht3 HT2 HR2 hc2 hp3 hp2 hc HS
  go_wp2_with fail
  refine (findPop B0 sb g c n x y T' f hl' (by omega) hsb w3 HS3 hr3).mono ?_
  rintro e w4 ⟨rfl, hs4, hr4, ht4⟩
  have HT4 : Hid (Tcs (fun k => k = sb ∨ k = g) w0 w4) := (HT3.out.mono fun _ h => .inr h).trans (ht4.mono fun _ h => .inl h)
  clear hm3 HS3 hr3 ht4
  go_wp2
  go_ret
  first | exact ⟨f, T', rfl, HP3.out, hl', hs4, hr4, HT4.out⟩ | exact ⟨_, _, rfl, HP3.out, hl', hs4, hr4, HT4.out⟩
end Pg
end Go.Proofs.YtinanjjhkddikaaGreat

/- When a program is right, as a plain function. -/
namespace Go.Proofs.YtinanjjhkddikaaGreat
namespace Pg
open Go.ChangeShapes Go.WideShapes Go.ChangeAt Go.RowKit St

def tyB (n t : Int) : Bool := decide (t = -1) || (decide (0 ≤ t) && decide (t < n))
def okMB (n : Int) (m : Meth) : Bool := decide (0 ≤ m.name) && decide (m.name ≤ 19) && decide (m.args.length ≤ 3) && m.args.all (tyB n) && tyB n m.gives && Lay.codeOk m.code
def ownF (c : Cls) (name : Int) : Option Meth := c.meths.find? fun m => decide (m.name = name)
def agree1 (c : Cls) (m : Meth) : Bool := match ownF c m.name with | none => true | some x => decide (x.args = m.args) && decide (x.gives = m.gives)
def agreeF (p : Prg) (m : Meth) : Nat → Int → Bool
  | 0, _ => true
  | f + 1, up => if up < 0 then true else match p[up.toNat]? with | none => true | some c => agree1 c m && agreeF p m f c.super
def okK (p : Prg) (c : Cls) (k : Nat) : Bool := match c.meths[k]? with
  | none => true
  | some m => okMB p.length m && (match k with | 0 => true | j + 1 => match c.meths[j]? with | none => true | some q => decide (q.name < m.name)) && agreeF p m 6 c.super
def okCB (p : Prg) (i : Nat) (c : Cls) : Bool := decide (-1 ≤ c.super) && decide (c.super < (i : Int)) && decide (c.fields.length ≤ 4) && c.fields.all (tyB p.length) && decide (c.meths.length ≤ 4) && (List.range c.meths.length).all (okK p c)
def okAt (p : Prg) (i : Nat) : Bool := match p[i]? with | none => true | some c => okCB p i c
def mainOk (p : Prg) : Bool := match p[0]? with | none => false | some c => match ownF c 0 with | none => false | some m => decide (m.args.length = 0) && decide (m.gives = -1)
def okP (p : Prg) : Bool := decide (1 ≤ p.length) && decide (p.length ≤ 6) && (List.range p.length).all (okAt p) && mainOk p

theorem okP_len {p : Prg} (h : okP p = true) : 1 ≤ p.length ∧ p.length ≤ 6 := by
  unfold okP at h
  simp only [Bool.and_eq_true, decide_eq_true_eq] at h
  exact ⟨h.1.1.1, h.1.1.2⟩
theorem okP_at {p : Prg} (h : okP p = true) {i : Nat} (hi : i < p.length) : okAt p i = true := by
  unfold okP at h
  simp only [Bool.and_eq_true] at h
  exact List.all_eq_true.1 h.1.2 i (List.mem_range.2 hi)
theorem okP_few {p : Prg} (h : p.length < 1) : okP p = false := by simp [okP]; omega
theorem okP_many {p : Prg} (h : 6 < p.length) : okP p = false := by
  cases hh : okP p
  · rfl
  · have := okP_len hh; omega
theorem okP_no {p : Prg} {i : Nat} (hi : i < p.length) (h : okAt p i = false) : okP p = false := by
  cases hh : okP p
  · rfl
  · rw [okP_at hh hi] at h; simp at h
theorem okP_main {p : Prg} (h1 : 1 ≤ p.length) (h2 : p.length ≤ 6) (h : ∀ i, i < p.length → okAt p i = true) : okP p = mainOk p := by
  have : (List.range p.length).all (okAt p) = true := List.all_eq_true.2 fun i hi => h i (List.mem_range.1 hi)
  simp [okP, this, h1, h2]
theorem okAt_of {p : Prg} {i : Nat} {c : Cls} (h : p[i]? = some c) : okAt p i = okCB p i c := by simp [okAt, h]
theorem okC_super {p : Prg} {i : Nat} {c : Cls} (h : okCB p i c = true) : -1 ≤ c.super ∧ c.super < (i : Int) := by
  unfold okCB at h
  simp only [Bool.and_eq_true, decide_eq_true_eq] at h
  exact ⟨h.1.1.1.1.1, h.1.1.1.1.2⟩
theorem okC_few {p : Prg} {i : Nat} {c : Cls} (h : okCB p i c = true) : c.fields.length ≤ 4 ∧ c.meths.length ≤ 4 := by
  unfold okCB at h
  simp only [Bool.and_eq_true, decide_eq_true_eq] at h
  exact ⟨h.1.1.1.2, h.1.2⟩
theorem okC_meth {p : Prg} {i : Nat} {c : Cls} (h : okCB p i c = true) {k : Nat} (hk : k < c.meths.length) : okK p c k = true := by
  unfold okCB at h
  simp only [Bool.and_eq_true] at h
  exact List.all_eq_true.1 h.2 k (List.mem_range.2 hk)
theorem okC_no {p : Prg} {i : Nat} {c : Cls} {k : Nat} (hk : k < c.meths.length) (h : okK p c k = false) : okCB p i c = false := by
  cases hh : okCB p i c
  · rfl
  · rw [okC_meth hh hk] at h; simp at h
/-- All classes before this one have a lesser Super. -/
def SupOk (p : Prg) (n : Nat) : Prop := ∀ j c, j < n → p[j]? = some c → -1 ≤ c.super ∧ c.super < (j : Int)
theorem SupOk.of {p : Prg} {n : Nat} (h : ∀ i, i < n → okAt p i = true) : SupOk p n := fun j c hj hc => okC_super (by rw [← okAt_of hc]; exact h j hj)
theorem agreeF_neg (p : Prg) (m : Meth) (f : Nat) {up : Int} (h : up < 0) : agreeF p m f up = true := by
  cases f with
  | zero => rfl
  | succ f => simp [agreeF, h]
theorem agreeF_fuel {p : Prg} {n : Nat} (hs : SupOk p n) (m : Meth) : ∀ (f g : Nat) (up : Int), up < (n : Int) → up < (f : Int) → up < (g : Int) → agreeF p m f up = agreeF p m g up := by
  intro f
  induction f with
  | zero => intro g up _ h1 _; rw [agreeF_neg _ _ _ (by omega), agreeF_neg _ _ _ (by omega)]
  | succ f ih =>
    intro g up hn h1 h2
    by_cases h0 : up < 0
    · rw [agreeF_neg _ _ _ h0, agreeF_neg _ _ _ h0]
    · cases g with
      | zero => omega
      | succ g =>
        simp only [agreeF, h0, if_false]
        cases hc : p[up.toNat]? with
        | none => rfl
        | some c =>
          have := hs up.toNat c (by omega) hc
          simp only []
          rw [ih g c.super (by omega) (by omega) (by omega)]
/-- One class further up. -/
theorem agreeF_step {p : Prg} {n : Nat} (hs : SupOk p n) (m : Meth) {u : Nat} (hu : u < n) (h6 : u < 6) {c : Cls} (hc : p[u]? = some c) : agreeF p m 6 (u : Int) = (agree1 c m && agreeF p m 6 c.super) := by
  have h0 : ¬ (u : Int) < 0 := by omega
  have := hs u c hu hc
  have e : agreeF p m 5 c.super = agreeF p m 6 c.super := agreeF_fuel hs m 5 6 c.super (by omega) (by omega) (by omega)
  show (if (u : Int) < 0 then true else match p[(u : Int).toNat]? with | none => true | some c => agree1 c m && agreeF p m 5 c.super) = _
  rw [if_neg h0, Int.toNat_natCast, hc]
  simp only []
  rw [e]
theorem find_none {c : Cls} {name : Int} (h : ∀ j, j < c.meths.length → ∀ m, c.meths[j]? = some m → m.name ≠ name) : ownF c name = none := by
  unfold ownF
  rw [List.find?_eq_none]
  intro m hm
  obtain ⟨j, hj, rfl⟩ := List.getElem_of_mem hm
  simpa using h j hj _ (List.getElem?_eq_getElem hj)
theorem find_at {c : Cls} {name : Int} {k : Nat} {m : Meth} (h : ∀ j, j < k → ∀ m, c.meths[j]? = some m → m.name ≠ name) (hk : c.meths[k]? = some m) (hn : m.name = name) : ownF c name = some m := by
  unfold ownF
  rw [List.find?_eq_some_iff_getElem]
  obtain ⟨hlt, hm⟩ := List.getElem?_eq_some_iff.1 hk
  refine ⟨by simpa using hn, k, hlt, hm, fun j hj => ?_⟩
  simpa using h j hj _ (List.getElem?_eq_getElem (by omega))
end Pg
end Go.Proofs.YtinanjjhkddikaaGreat

/- Contracts of the laws' own counting of what there is in a program. -/
namespace Go.Proofs.YtinanjjhkddikaaGreat
namespace Pg
open Go.ChangeShapes Go.WideShapes Go.ChangeAt Go.RowKit St

/-- What is left, or -1. -/
def szR (n : Nat) (left : Int) : Int := if (n : Int) ≤ left then left - n else -1
theorem szR_yes {n : Nat} {left : Int} (h : (n : Int) ≤ left) : szR n left = left - n := if_pos h
theorem szR_no {n : Nat} {left : Int} (h : left < (n : Int)) : szR n left = -1 := if_neg (by omega)
theorem retI {p q : Int} (h : p = q) : Ending.returned (.int .i64 p) = .returned (.int .i64 q) := by rw [h]
/-- No slice is longer than slices can be. -/
def SaneM (m : Meth) : Prop := m.args.length ≤ 9223372036854775807 ∧ m.code.length ≤ 9223372036854775807
def SaneC (c : Cls) : Prop := c.fields.length ≤ 9223372036854775807 ∧ c.meths.length ≤ 9223372036854775807 ∧ ∀ m ∈ c.meths, SaneM m
def SaneP (p : Prg) : Prop := p.length ≤ 9223372036854775807 ∧ ∀ c ∈ p, SaneC c

set_option maxHeartbeats 400000 in
theorem szInts (a : Option Addr) (n cap : Nat) (left : Int) (h0 : 0 ≤ left) (h1 : left ≤ 1048576) (hn : n ≤ 9223372036854775807) (w : World) :
    Calls Tryz.prog 64 #[.slice a n cap, .int .i64 left] w fun e w' => e = .returned (.int .i64 (szR n left)) ∧ w = w' := by
  by_cases h : (n : Int) ≤ left
  · rw [szR_yes h]
    go_enter Tryz.func64, Tryz.ntmps64
    go_wp2
    go_ret
    exact ⟨rfl, rfl⟩
  · have h : left < (n : Int) := by omega
    rw [szR_no h]
    go_enter Tryz.func64, Tryz.ntmps64
    go_wp2
    go_ret
    exact ⟨rfl, rfl⟩
set_option maxHeartbeats 400000 in
theorem szInsns (a : Option Addr) (n cap : Nat) (left : Int) (h0 : 0 ≤ left) (h1 : left ≤ 1048576) (hn : n ≤ 9223372036854775807) (w : World) :
    Calls Tryz.prog 97 #[.slice a n cap, .int .i64 left] w fun e w' => e = .returned (.int .i64 (szR n left)) ∧ w = w' := by
  by_cases h : (n : Int) ≤ left
  · rw [szR_yes h]
    go_enter Tryz.func97, Tryz.ntmps97
    go_wp2
    go_ret
    exact ⟨rfl, rfl⟩
  · have h : left < (n : Int) := by omega
    rw [szR_no h]
    go_enter Tryz.func97, Tryz.ntmps97
    go_wp2
    go_ret
    exact ⟨rfl, rfl⟩

set_option maxHeartbeats 800000 in
theorem szMethod (name gives : Int) (a a' : Option Addr) (n n' cap cap' : Nat) (left : Int) (h0 : 0 ≤ left) (h1 : left ≤ 1048576) (hn : n ≤ 9223372036854775807) (hn' : n' ≤ 9223372036854775807) (w : World) :
    Calls Tryz.prog 83 #[.agg #[.int .i64 name, .slice a n cap, .int .i64 gives, .slice a' n' cap'], .int .i64 left] w fun e w' => e = .returned (.int .i64 (szR (n + n') left)) ∧ Below w.heap.size w w' := by
  by_cases h : (n : Int) ≤ left
  · by_cases h' : (n' : Int) ≤ left - n
    · rw [szR_yes (n := n + n') (by omega)]
      go_enter Tryz.func83, Tryz.ntmps83
      go_wp2_with fail
      refine (szInts a n cap left h0 h1 hn _).mono ?_
      rw [szR_yes h]
      rintro e w1 ⟨rfl, rfl⟩
      go_wp2_with fail
      refine (szInsns a' n' cap' _ (by omega) (by omega) hn' _).mono ?_
      rw [szR_yes h']
      rintro e w1 ⟨rfl, rfl⟩
      go_wp2
      go_ret
      exact ⟨retI (by omega), (Below.refl _ _).alloc (Nat.le_refl _) _⟩
    · rw [szR_no (n := n + n') (by omega)]
      go_enter Tryz.func83, Tryz.ntmps83
      go_wp2_with fail
      refine (szInts a n cap left h0 h1 hn _).mono ?_
      rw [szR_yes h]
      rintro e w1 ⟨rfl, rfl⟩
      go_wp2_with fail
      refine (szInsns a' n' cap' _ (by omega) (by omega) hn' _).mono ?_
      rw [szR_no h']
      rintro e w1 ⟨rfl, rfl⟩
      go_wp2
      go_ret
      exact ⟨rfl, (Below.refl _ _).alloc (Nat.le_refl _) _⟩
  · rw [szR_no (n := n + n') (by omega)]
    go_enter Tryz.func83, Tryz.ntmps83
    go_wp2_with fail
    refine (szInts a n cap left h0 h1 hn _).mono ?_
    rw [szR_no h]
    rintro e w1 ⟨rfl, rfl⟩
    go_wp2
    go_ret
    exact ⟨rfl, (Below.refl _ _).alloc (Nat.le_refl _) _⟩

set_option maxHeartbeats 800000 in
theorem szMethods (K : Way) (B : Nat) (a : Option Addr) (cap : Nat) (ms : List Meth) (left : Int) (h0 : 0 ≤ left) (h1 : left ≤ 1048576) (hn : ms.length ≤ 9223372036854775807) (hs : ∀ m ∈ ms, SaneM m) (w : World) (hm : SM K B w (.slice a ms.length cap) ms) :
    Calls Tryz.prog 65 #[.slice a ms.length cap, .int .i64 left] w fun e w' => e = .returned (.int .i64 (szR (szMs ms) left)) ∧ Below w.heap.size w w' := by
  have HS : Hid (∀ m ∈ ms, SaneM m) := hs
  have HM : Hid (SM K B w (.slice a ms.length cap) ms) := hm
  clear hs hm
  by_cases h : (ms.length : Int) ≤ left
  · go_enter Tryz.func65, Tryz.ntmps65
    go_wp2
    go_loopw [1, 5] (fun lv i wr => ∃ (k : Nat) (lf : Int), k ≤ ms.length ∧ i = .int .i64 k ∧ lv = .int .i64 lf ∧ 0 ≤ lf ∧ lf ≤ 1048576 ∧ Hid (lf = left - ms.length - sumN ((ms.take k).map szM)) ∧ Below w.heap.size w wr) (fun _ i _ => ms.length - (intOf i).toNat)
    case atStart => exact ⟨0, left - ms.length, Nat.zero_le _, rfl, rfl, by omega, by omega, by show _ = _; simp [sumN], Below.refl _ _⟩
    case round =>
      obtain ⟨k, lf, hk, rfl, rfl, hl0, hl1, hlf, hb⟩ := hrel
      by_cases hlt : k < ms.length
      · have hki : (k : Int) < (ms.length : Int) := by omega
        have HT : Hid (sumN ((ms.take (k + 1)).map szM) = sumN ((ms.take k).map szM) + szM ms[k]) := sumN_take_succ szM ms k hlt
        have HL : Hid (sumN ((ms.take (k + 1)).map szM) ≤ sumN (ms.map szM)) := sumN_take_le szM ms (k + 1)
        have hsm := HS.out _ (List.getElem_mem hlt)
        obtain ⟨b, o, rfl, _, va, vc, c0, c1, c2, c3, hmv⟩ := (SM.on HM.out (Keep.of hb)).get hlt
        obtain ⟨aa, ca, rfl⟩ := hmv.1.form
        obtain ⟨ac, cc, rfl⟩ := K.form hmv.2
        generalize ms[k] = m at *
        have hsm1 := hsm.1
        have hsm2 := hsm.2
        clear hsm hmv HM
        go_wp2_with fail
        refine (szMethod m.name m.gives aa ac m.args.length m.code.length ca cc lf hl0 hl1 hsm1 hsm2 _).mono ?_
        rintro e w1 ⟨rfl, hb1⟩
        have hw1 : Below w.heap.size w w1 := below_over hb hb1
        clear hb1 hb c0 c1 c2 c3
        by_cases hq : ((m.args.length + m.code.length : Nat) : Int) ≤ lf
        · rw [szR_yes hq]
          have hq0 : 0 ≤ lf - ((m.args.length + m.code.length : Nat) : Int) := by omega
          go_wp2
          go_roundw
          case rel =>
            refine ⟨k + 1, _, by omega, by go_num, rfl, by omega, by omega, ?_, hw1⟩
            show _ = _
            rw [HT.out, hlf.out]
            have e : szM m = m.args.length + m.code.length := rfl
            omega
          case measure => simp [intOf]; omega
        · have hq : lf < _ := Int.not_le.1 hq
          rw [szR_no hq]
          have HN : Hid (szR (szMs ms) left = -1) := by
            show _ = _
            apply szR_no
            have h1 := HT.out
            have h2 := HL.out
            have h3 := hlf.out
            have e : szM m = m.args.length + m.code.length := rfl
            unfold szMs
            omega
          go_wp2
          go_ret
          exact ⟨retI HN.out.symm, hw1⟩
      · have HN : Hid (szR (szMs ms) left = lf) := by
          show _ = _
          have e : ms.take k = ms := List.take_of_length_le (by omega)
          have h3 := hlf.out
          rw [e] at h3
          rw [szR_yes (by unfold szMs; omega)]
          unfold szMs
          omega
        go_wp2
        go_ret
        exact ⟨retI HN.out.symm, hb⟩
  · rw [szR_no (n := szMs ms) (by unfold szMs; omega)]
    go_enter Tryz.func65, Tryz.ntmps65
    go_wp2
    go_ret
    exact ⟨rfl, Below.refl _ _⟩

set_option maxHeartbeats 800000 in
theorem szClass (K : Way) (B : Nat) (super : Int) (a a' : Option Addr) (cap cap' : Nat) (c : Cls) (left : Int) (h0 : 0 ≤ left) (h1 : left ≤ 1048576) (hs : SaneC c) (w : World) (hm : SM K B w (.slice a' c.meths.length cap') c.meths) :
    Calls Tryz.prog 39 #[.agg #[.int .i64 super, .slice a c.fields.length cap, .slice a' c.meths.length cap'], .int .i64 left] w fun e w' => e = .returned (.int .i64 (szR (szC c) left)) ∧ Below w.heap.size w w' := by
  have HM : Hid (SM K B w (.slice a' c.meths.length cap') c.meths) := hm
  have hs1 := hs.1
  have hs2 := hs.2.1
  have HS3 : Hid (∀ m ∈ c.meths, SaneM m) := hs.2.2
  clear hm hs
  by_cases h : (c.fields.length : Int) ≤ left
  · by_cases h' : (szMs c.meths : Int) ≤ left - c.fields.length
    · rw [szR_yes (n := szC c) (by unfold szC; omega)]
      go_enter Tryz.func39, Tryz.ntmps39
      go_wp2_with fail
      refine (szInts a _ cap left h0 h1 hs1 _).mono ?_
      rw [szR_yes h]
      rintro e w1 ⟨rfl, rfl⟩
      go_wp2_with fail
      refine (szMethods K B a' cap' c.meths _ (by omega) (by omega) hs2 HS3.out _ (SM.on HM.out (Keep.of ((Below.refl _ _).alloc (Nat.le_refl _) _)))).mono ?_
      rw [szR_yes h']
      rintro e w1 ⟨rfl, hb1⟩
      have hw1 : Below w.heap.size w w1 := below_over ((Below.refl _ _).alloc (Nat.le_refl _) _) hb1
      clear hb1
      go_wp2
      go_ret
      exact ⟨retI (by unfold szC; omega), hw1⟩
    · rw [szR_no (n := szC c) (by unfold szC; omega)]
      go_enter Tryz.func39, Tryz.ntmps39
      go_wp2_with fail
      refine (szInts a _ cap left h0 h1 hs1 _).mono ?_
      rw [szR_yes h]
      rintro e w1 ⟨rfl, rfl⟩
      go_wp2_with fail
      refine (szMethods K B a' cap' c.meths _ (by omega) (by omega) hs2 HS3.out _ (SM.on HM.out (Keep.of ((Below.refl _ _).alloc (Nat.le_refl _) _)))).mono ?_
      rw [szR_no h']
      rintro e w1 ⟨rfl, hb1⟩
      have hw1 : Below w.heap.size w w1 := below_over ((Below.refl _ _).alloc (Nat.le_refl _) _) hb1
      clear hb1
      go_wp2
      go_ret
      exact ⟨rfl, hw1⟩
  · rw [szR_no (n := szC c) (by unfold szC; omega)]
    go_enter Tryz.func39, Tryz.ntmps39
    go_wp2_with fail
    refine (szInts a _ cap left h0 h1 hs1 _).mono ?_
    rw [szR_no h]
    rintro e w1 ⟨rfl, rfl⟩
    go_wp2
    go_ret
    exact ⟨rfl, (Below.refl _ _).alloc (Nat.le_refl _) _⟩

set_option maxHeartbeats 800000 in
theorem szClasses (K : Way) (B : Nat) (a : Option Addr) (cap : Nat) (p : Prg) (left : Int) (h0 : 0 ≤ left) (h1 : left ≤ 1048576) (hs : SaneP p) (w : World) (hm : SK K B w (.slice a p.length cap) p) :
    Calls Tryz.prog 23 #[.slice a p.length cap, .int .i64 left] w fun e w' => e = .returned (.int .i64 (szR (szP p) left)) ∧ Below w.heap.size w w' := by
  have hn := hs.1
  have HS : Hid (∀ m ∈ p, SaneC m) := hs.2
  have HM : Hid (SK K B w (.slice a p.length cap) p) := hm
  clear hs hm
  by_cases h : (p.length : Int) ≤ left
  · go_enter Tryz.func23, Tryz.ntmps23
    go_wp2
    go_loopw [1, 5] (fun lv i wr => ∃ (k : Nat) (lf : Int), k ≤ p.length ∧ i = .int .i64 k ∧ lv = .int .i64 lf ∧ 0 ≤ lf ∧ lf ≤ 1048576 ∧ Hid (lf = left - p.length - sumN ((p.take k).map szC)) ∧ Below w.heap.size w wr) (fun _ i _ => p.length - (intOf i).toNat)
    case atStart => exact ⟨0, left - p.length, Nat.zero_le _, rfl, rfl, by omega, by omega, by show _ = _; simp [sumN], Below.refl _ _⟩
    case round =>
      obtain ⟨k, lf, hk, rfl, rfl, hl0, hl1, hlf, hb⟩ := hrel
      by_cases hlt : k < p.length
      · have hki : (k : Int) < (p.length : Int) := by omega
        have HT : Hid (sumN ((p.take (k + 1)).map szC) = sumN ((p.take k).map szC) + szC p[k]) := sumN_take_succ szC p k hlt
        have HL : Hid (sumN ((p.take (k + 1)).map szC) ≤ sumN (p.map szC)) := sumN_take_le szC p (k + 1)
        have HSM : Hid (SaneC p[k]) := HS.out _ (List.getElem_mem hlt)
        obtain ⟨b, o, rfl, _, vf, vm, c0, c1, c2, hcv⟩ := (SK.on HM.out (Keep.of hb)).get hlt
        obtain ⟨aa, ca, rfl⟩ := hcv.1.form
        obtain ⟨ac, cc, rfl⟩ := hcv.2.form
        have HCV : Hid (SM K B wr (.slice ac p[k].meths.length cc) p[k].meths) := hcv.2
        generalize p[k] = c at *
        clear hcv HM
        go_wp2_with fail
        refine (szClass K B c.super aa ac ca cc c lf hl0 hl1 HSM.out _ HCV.out).mono ?_
        rintro e w1 ⟨rfl, hb1⟩
        have hw1 : Below w.heap.size w w1 := below_over hb hb1
        clear hb1 hb c0 c1 c2 HCV
        by_cases hq : (szC c : Int) ≤ lf
        · rw [szR_yes hq]
          have hq0 : 0 ≤ lf - (szC c : Int) := by omega
          go_wp2
          go_roundw
          case rel =>
            refine ⟨k + 1, _, by omega, by go_num, rfl, by omega, by omega, ?_, hw1⟩
            show _ = _
            rw [HT.out, hlf.out]
            omega
          case measure => simp [intOf]; omega
        · have hq : lf < _ := Int.not_le.1 hq
          rw [szR_no hq]
          have HN : Hid (szR (szP p) left = -1) := by
            show _ = _
            apply szR_no
            have h1 := HT.out
            have h2 := HL.out
            have h3 := hlf.out
            unfold szP
            omega
          go_wp2
          go_ret
          exact ⟨retI HN.out.symm, hw1⟩
      · have HN : Hid (szR (szP p) left = lf) := by
          show _ = _
          have e : p.take k = p := List.take_of_length_le (by omega)
          have h3 := hlf.out
          rw [e] at h3
          rw [szR_yes (by unfold szP; omega)]
          unfold szP
          omega
        go_wp2
        go_ret
        exact ⟨retI HN.out.symm, hb⟩
  · rw [szR_no (n := szP p) (by unfold szP; omega)]
    go_enter Tryz.func23, Tryz.ntmps23
    go_wp2
    go_ret
    exact ⟨rfl, Below.refl _ _⟩

set_option maxHeartbeats 800000 in
theorem szProgram (K : Way) (B : Nat) (a : Option Addr) (cap : Nat) (p : Prg) (hs : SaneP p) (w : World) (hm : SK K B w (.slice a p.length cap) p) :
    Calls Tryz.prog 7 #[.agg #[.slice a p.length cap], .int .i64 1048576] w fun e w' => e = .returned (.int .i64 (szR (szP p) 1048576)) ∧ Below w.heap.size w w' := by
  have HM : Hid (SK K B w (.slice a p.length cap) p) := hm
  have HS : Hid (SaneP p) := hs
  clear hm hs
  go_enter Tryz.func7, Tryz.ntmps7
  go_wp2_with fail
  refine (szClasses K B a cap p _ (by omega) (by omega) HS.out _ (SK.on HM.out (Keep.of ((Below.refl _ _).alloc (Nat.le_refl _) _)))).mono ?_
  rintro e w1 ⟨rfl, hb1⟩
  have hw1 : Below w.heap.size w w1 := below_over ((Below.refl _ _).alloc (Nat.le_refl _) _) hb1
  clear hb1
  by_cases h : (szP p : Int) ≤ 1048576
  · have e := szR_yes h
    rw [e]
    have HE : Hid (szR (szP p) 1048576 = 1048576 - (szP p : Int)) := e
    clear e
    go_wp2
    go_ret
    exact ⟨retI HE.out.symm, hw1⟩
  · have e := szR_no (Int.not_le.1 h)
    rw [e]
    have HE : Hid (szR (szP p) 1048576 = -1) := e
    clear e
    go_wp2
    go_ret
    exact ⟨retI HE.out.symm, hw1⟩
end Pg
end Go.Proofs.YtinanjjhkddikaaGreat

/- Contracts of the laws' own copying of programs. -/
namespace Go.Proofs.YtinanjjhkddikaaGreat
namespace Pg
open Go.ChangeShapes Go.WideShapes Go.ChangeAt Go.RowKit St

theorem toInts' (a : Option Addr) (cap : Nat) (l : List Int) (hl : l.length ≤ 1048576) (w : World) (hr : SI false 0 w (.slice a l.length cap) l) :
    Calls Tryz.prog 21 #[.slice a l.length cap] w fun e w' => ∃ v, e = .returned v ∧ SI true w.heap.size w' v l ∧ Below w.heap.size w w' :=
  (toInts a cap l hl w (SI.rows hr)).mono fun _ _ ⟨h1, h2, h3, h4, h5⟩ => ⟨_, h1, SI.row (Nat.le_refl _) h4 h2 h3, h5⟩
theorem toRow' (a : Option Addr) (cap : Nat) (l : List Tx.Ins) (hl : l.length ≤ 1048576) (w : World) (hr : SC 0 w (.slice a l.length cap) l) :
    Calls Tryz.prog 99 #[.slice a l.length cap] w fun e w' => ∃ v, e = .returned v ∧ CS w.heap.size w' v l ∧ Below w.heap.size w w' :=
  (toRowS a cap l hl w (SC.rows hr)).mono fun _ _ ⟨h1, h2, h3, h4, h5⟩ => ⟨_, h1, ⟨_, _, rfl, Nat.le_refl _, h4, h2, h3⟩, h5⟩

set_option maxRecDepth 100000 in
set_option maxHeartbeats 1000000 in
theorem toMethod (m : Meth) (aa ac : Option Addr) (ca cc : Nat) (h1 : m.args.length ≤ 1048576) (h2 : m.code.length ≤ 1048576) (w : World) (hi : SI false 0 w (.slice aa m.args.length ca) m.args) (hc : SC 0 w (.slice ac m.code.length cc) m.code) :
    Calls Tryz.prog 86 #[.agg #[.int .i64 m.name, .slice aa m.args.length ca, .int .i64 m.gives, .slice ac m.code.length cc]] w fun e w' => ∃ va vc, e = .returned (.agg #[.int .i64 m.name, va, .int .i64 m.gives, vc]) ∧ MV front w.heap.size w' va vc m ∧ Below w.heap.size w w' := by
  have HI : Hid (SI false 0 w (.slice aa m.args.length ca) m.args) := hi
  have HC : Hid (SC 0 w (.slice ac m.code.length cc) m.code) := hc
  clear hi hc
  go_enter Tryz.func86, Tryz.ntmps86
  go_wp2_with fail
  refine (toInts' aa ca m.args h1 _ ?_).mono ?_
  · exact SI.on HI.out (Keep.of (by go_grown))
  rintro e w1 ⟨va, rfl, hi1, hb1⟩
  obtain ⟨a1, c1, rfl⟩ := hi1.form
  have hw1 : Below w.heap.size w w1 := below_over (by go_grown) hb1
  have A1 : Hid (Cells w1 w.heap.size [.int .i64 m.name, .slice aa m.args.length ca, .int .i64 m.gives, .slice ac m.code.length cc]) := by
    show Cells _ _ _
    refine Cells.on ?_ hb1
    exact ((Cells.new w _ rfl _ _).alloc _).alloc _
  have R1 : Hid (Cells w1 (w.heap.size + 1) [.int .i64 0, .slice none 0 0, .int .i64 0, .slice none 0 0]) := by
    show Cells _ _ _
    refine Cells.on ?_ hb1
    exact (Cells.new (w.alloc _) _ (by simp) _ _).alloc _
  have O1 : Hid (Cells w1 (w.heap.size + 1 + 1) [.int .i64 m.name, .slice none 0 0, .int .i64 0, .slice none 0 0]) := by
    show Cells _ _ _
    refine Cells.on ?_ hb1
    exact Cells.new ((w.alloc _).alloc _) _ (by simp) _ _
  have HV1 : Hid (SI true (w.heap.size + 1 + 1 + 1) w1 (.slice a1 m.args.length c1) m.args) := SI.weak hi1 (by simp)
  have hz1 : w.heap.size + 1 + 1 + 1 ≤ w1.heap.size := by have := hb1.size; simpa using this
  clear hi1 hb1
  generalize hs : w.heap.size = s at *
  have HSS : Hid (w.heap.size = s) := hs
  clear hs
  obtain ⟨b2, _⟩ := A1.out.g2
  obtain ⟨o1, p1⟩ := O1.out.g1
  obtain ⟨o2, p2⟩ := O1.out.g2
  have n21 : ∀ i, (⟨s + 1 + 1, i, none⟩ : Addr).block ≠ s + 1 := fun i => by show s + 1 + 1 ≠ s + 1; omega
  have n20 : ∀ i, (⟨s + 1 + 1, i, none⟩ : Addr).block ≠ s := fun i => by show s + 1 + 1 ≠ s; omega
  have N21 : Hid (∀ i, (⟨s + 1 + 1, i, none⟩ : Addr).block ≠ s + 1) := n21
  have N20 : Hid (∀ i, (⟨s + 1 + 1, i, none⟩ : Addr).block ≠ s) := n20
  clear n21 n20
  have a3 := (((A1.out.far ⟨s + 1 + 1, 1, none⟩ (.slice a1 m.args.length c1) (N20.out 0)).far ⟨s + 1 + 1, 2, none⟩ (.int .i64 m.gives) (N20.out 0)).g3).1
  have O2 : Hid (Cells ((w1.setCell ⟨s + 1 + 1, 1, none⟩ (.slice a1 m.args.length c1)).setCell ⟨s + 1 + 1, 2, none⟩ (.int .i64 m.gives)) (s + 1 + 1) [.int .i64 m.name, (.slice a1 m.args.length c1), .int .i64 m.gives, .slice none 0 0]) := (O1.out.s1 (.slice a1 m.args.length c1)).s2 (.int .i64 m.gives)
  have R2 : Hid (Cells ((w1.setCell ⟨s + 1 + 1, 1, none⟩ (.slice a1 m.args.length c1)).setCell ⟨s + 1 + 1, 2, none⟩ (.int .i64 m.gives)) (s + 1) [.int .i64 0, .slice none 0 0, .int .i64 0, .slice none 0 0]) := (R1.out.far ⟨s + 1 + 1, 1, none⟩ (.slice a1 m.args.length c1) (N21.out 0)).far ⟨s + 1 + 1, 2, none⟩ (.int .i64 m.gives) (N21.out 0)
  have hw2 : Below s w ((w1.setCell ⟨s + 1 + 1, 1, none⟩ (.slice a1 m.args.length c1)).setCell ⟨s + 1 + 1, 2, none⟩ (.int .i64 m.gives)) := (hw1.setCell (p := ⟨s + 1 + 1, 1, none⟩) (by simp; omega) _).setCell (p := ⟨s + 1 + 1, 2, none⟩) (by simp; omega) _
  have hk2 : Keep (s + 1 + 1 + 1) w1 ((w1.setCell ⟨s + 1 + 1, 1, none⟩ (.slice a1 m.args.length c1)).setCell ⟨s + 1 + 1, 2, none⟩ (.int .i64 m.gives)) := (Keep.set w1 (p := ⟨s + 1 + 1, 1, none⟩) (by simp) (.slice a1 m.args.length c1)).trans (Keep.set _ (p := ⟨s + 1 + 1, 2, none⟩) (by simp) _)
  have HV2 : Hid (SI true (s + 1 + 1 + 1) ((w1.setCell ⟨s + 1 + 1, 1, none⟩ (.slice a1 m.args.length c1)).setCell ⟨s + 1 + 1, 2, none⟩ (.int .i64 m.gives)) (.slice a1 m.args.length c1) m.args) := SI.on HV1.out hk2
  have hz2 := Nat.le_trans hz1 hk2.size
  have HK2 : Hid (Below s w ((w1.setCell ⟨s + 1 + 1, 1, none⟩ (.slice a1 m.args.length c1)).setCell ⟨s + 1 + 1, 2, none⟩ (.int .i64 m.gives))) := hw2
  clear hk2 HV1 hw1 A1 R1 O1 hw2 hz1
  go_wp2_with fail
  generalize (w1.setCell ⟨s + 1 + 1, 1, none⟩ (.slice a1 m.args.length c1)).setCell ⟨s + 1 + 1, 2, none⟩ (.int .i64 m.gives) = w2 at *
  refine (toRow' ac cc m.code h2 _ (SC.on HC.out (Keep.of (by rw [HSS.out]; exact HK2.out)))).mono ?_
  rintro e w3 ⟨vc, rfl, hc3, hb3⟩
  obtain ⟨a2, c2, rfl⟩ := front.form hc3
  have O3 : Hid (Cells w3 (s + 1 + 1) [.int .i64 m.name, (.slice a1 m.args.length c1), .int .i64 m.gives, .slice none 0 0]) := O2.out.on hb3
  have R3 := R2.out.on hb3
  have HV3 : Hid (SI true (s + 1 + 1 + 1) w3 (.slice a1 m.args.length c1) m.args) := SI.on HV2.out (Keep.of hb3)
  have HC3 : Hid (CS (s + 1 + 1 + 1) w3 (.slice a2 m.code.length c2) m.code) := front.weak hc3 hz2
  have HW3 : Hid (Below s w w3) := HK2.out.trans (hb3.mono (by omega))
  clear hc3 hb3 b2 a3 o1 o2 p1 p2 O2 R2 HV2 HK2 hz2
  have O4 := O3.out.s3 (.slice a2 m.code.length c2)
  have R4 := R3.far ⟨s + 1 + 1, 3, none⟩ (.slice a2 m.code.length c2) (N21.out 0)
  have R5 := (((R4.s0 (.int .i64 m.name)).s1 (.slice a1 m.args.length c1)).s2 (.int .i64 m.gives)).s3 (.slice a2 m.code.length c2)
  obtain ⟨o3, p3⟩ := O3.out.g3
  obtain ⟨i0, _⟩ := O4.g0
  obtain ⟨i1, _⟩ := O4.g1
  obtain ⟨i2, _⟩ := O4.g2
  obtain ⟨i3, _⟩ := O4.g3
  obtain ⟨r0, q0⟩ := R4.g0
  obtain ⟨r1, q1⟩ := R4.g1
  obtain ⟨r2, q2⟩ := R4.g2
  obtain ⟨r3, q3⟩ := R4.g3
  obtain ⟨e0, _⟩ := R5.g0
  obtain ⟨e1, _⟩ := R5.g1
  obtain ⟨e2, _⟩ := R5.g2
  obtain ⟨e3, _⟩ := R5.g3
  clear O4 R4 R5 R3 O3
  go_wp2
  refine bodyPost_ret (v := .agg #[.int .i64 m.name, (.slice a1 m.args.length c1), .int .i64 m.gives, (.slice a2 m.code.length c2)]) (by simp [results, Tryz.results86, go_sem, e0, e1, e2, e3]) rfl ?_
  rw [HSS.out]
  have hk : ∀ (u : World) (j i : Nat) (x : Value), j < s + 1 + 1 + 1 → Keep (s + 1 + 1 + 1) u (u.setCell ⟨j, i, none⟩ x) := fun u j i x hj => Keep.set u (p := ⟨j, i, none⟩) hj x
  have hkk := ((((hk w3 (s + 1 + 1) 3 (.slice a2 m.code.length c2) (by omega)).trans (hk _ (s + 1) 0 (.int .i64 m.name) (by omega))).trans (hk _ (s + 1) 1 (.slice a1 m.args.length c1) (by omega))).trans (hk _ (s + 1) 2 (.int .i64 m.gives) (by omega))).trans (hk _ (s + 1) 3 (.slice a2 m.code.length c2) (by omega))
  have hbb := ((((HW3.out.setCell (p := ⟨s + 1 + 1, 3, none⟩) (by simp; omega) (.slice a2 m.code.length c2)).setCell (p := ⟨s + 1, 0, none⟩) (by simp) (.int .i64 m.name)).setCell (p := ⟨s + 1, 1, none⟩) (by simp) (.slice a1 m.args.length c1)).setCell (p := ⟨s + 1, 2, none⟩) (by simp) (.int .i64 m.gives)).setCell (p := ⟨s + 1, 3, none⟩) (by simp) (.slice a2 m.code.length c2)
  exact ⟨_, _, rfl, ⟨SI.weak (SI.on HV3.out hkk) (by omega), front.weak (front.on HC3.out hkk) (by omega)⟩, hbb⟩
end Pg
end Go.Proofs.YtinanjjhkddikaaGreat

/- Contracts of the laws' own copying of programs: rows of methods, classes, programs. -/
namespace Go.Proofs.YtinanjjhkddikaaGreat
namespace Pg
open Go.ChangeShapes Go.WideShapes Go.ChangeAt Go.RowKit St

theorem infoMe : (Tryz.prog.info? 55).map (fun i => (i.zero, i.size, i.bytes)) = some (some (.agg #[.int .i64 0, .slice none 0 0, .int .i64 0, .slice none 0 0]), 4, 64) := by kernel_rfl
theorem infoCl : (Tryz.prog.info? 52).map (fun i => (i.zero, i.size, i.bytes)) = some (some (.agg #[.int .i64 0, .slice none 0 0, .slice none 0 0]), 3, 56) := by kernel_rfl

theorem ne_off {g a b : Nat} (h : a ≠ b) : (⟨g, a, none⟩ : Addr) ≠ ⟨g, b, none⟩ := fun e => h (congrArg Addr.off e)
theorem MAt.far {K : Way} {B g o i : Nat} {w : World} {m : Meth} (h : MAt K B w g o m) (hg : g < B) (hi : i < o ∨ o + 3 < i) (v : Value) : MAt K B (w.setCell ⟨g, i, none⟩ v) g o m := by
  obtain ⟨va, vc, h0, h1, h2, h3, h4⟩ := h
  exact ⟨va, vc, (World.cell?_setCell_other _ _ _ _ (ne_off (by omega))).trans h0, (World.cell?_setCell_other _ _ _ _ (ne_off (by omega))).trans h1, (World.cell?_setCell_other _ _ _ _ (ne_off (by omega))).trans h2, (World.cell?_setCell_other _ _ _ _ (ne_off (by omega))).trans h3, h4.on (Keep.set w (p := ⟨g, i, none⟩) hg v)⟩
theorem CAt.far {K : Way} {B g o i : Nat} {w : World} {m : Cls} (h : CAt K B w g o m) (hg : g < B) (hi : i < o ∨ o + 2 < i) (v : Value) : CAt K B (w.setCell ⟨g, i, none⟩ v) g o m := by
  obtain ⟨va, vc, h0, h1, h2, h4⟩ := h
  exact ⟨va, vc, (World.cell?_setCell_other _ _ _ _ (ne_off (by omega))).trans h0, (World.cell?_setCell_other _ _ _ _ (ne_off (by omega))).trans h1, (World.cell?_setCell_other _ _ _ _ (ne_off (by omega))).trans h2, h4.on (Keep.set w (p := ⟨g, i, none⟩) hg v)⟩
/-- One method more written. -/
theorem meths_next {K : Way} {g k : Nat} {w : World} {ms : List Meth} (hk : k < ms.length) (hroom : Room w g (ms.length * 4)) (h : ∀ j x, (ms.take k)[j]? = some x → MAt K (g + 1) w g (0 + j * 4) x) {va vc : Value} (hv : MV K (g + 1) w va vc ms[k]) :
    ∀ j x, (ms.take (k + 1))[j]? = some x → MAt K (g + 1) ((((w.setCell ⟨g, k * 4, none⟩ (.int .i64 ms[k].name)).setCell ⟨g, k * 4 + 1, none⟩ va).setCell ⟨g, k * 4 + 2, none⟩ (.int .i64 ms[k].gives)).setCell ⟨g, k * 4 + 3, none⟩ vc) g (0 + j * 4) x := by
  intro j x hj
  rw [List.getElem?_take] at hj
  split at hj
  · rename_i hlt
    by_cases e : j = k
    · subst e
      rw [List.getElem?_eq_getElem hk] at hj
      simp at hj
      subst hj
      obtain ⟨⟨x0, h0⟩, _⟩ := hroom (j * 4) (by omega)
      obtain ⟨⟨x1, h1⟩, _⟩ := hroom (j * 4 + 1) (by omega)
      obtain ⟨⟨x2, h2⟩, _⟩ := hroom (j * 4 + 2) (by omega)
      obtain ⟨⟨x3, h3⟩, _⟩ := hroom (j * 4 + 3) (by omega)
      rw [Nat.zero_add]
      have k1 := Keep.set (B := g + 1) w (p := ⟨g, j * 4, none⟩) (by simp) (.int .i64 ms[j].name)
      refine ⟨va, vc, ?_, ?_, ?_, ?_, hv.on (((k1.trans (Keep.set _ (p := ⟨g, j * 4 + 1, none⟩) (by simp) va)).trans (Keep.set _ (p := ⟨g, j * 4 + 2, none⟩) (by simp) _)).trans (Keep.set _ (p := ⟨g, j * 4 + 3, none⟩) (by simp) vc))⟩
      · rw [World.cell?_setCell_other _ _ _ _ (ne_off (by omega)), World.cell?_setCell_other _ _ _ _ (ne_off (by omega)), World.cell?_setCell_other _ _ _ _ (ne_off (by omega))]
        exact World.cell?_setCell_same _ _ _ h0
      · rw [World.cell?_setCell_other _ _ _ _ (ne_off (by omega)), World.cell?_setCell_other _ _ _ _ (ne_off (by omega))]
        exact World.cell?_setCell_same _ _ _ ((World.cell?_setCell_other _ _ _ _ (ne_off (by omega))).trans h1)
      · rw [World.cell?_setCell_other _ _ _ _ (ne_off (by omega))]
        exact World.cell?_setCell_same _ _ _ ((World.cell?_setCell_other _ _ _ _ (ne_off (by omega))).trans ((World.cell?_setCell_other _ _ _ _ (ne_off (by omega))).trans h2))
      · exact World.cell?_setCell_same _ _ _ ((World.cell?_setCell_other _ _ _ _ (ne_off (by omega))).trans ((World.cell?_setCell_other _ _ _ _ (ne_off (by omega))).trans ((World.cell?_setCell_other _ _ _ _ (ne_off (by omega))).trans h3)))
    · have hx := h j x (by rw [List.getElem?_take, if_pos (by omega)]; exact hj)
      exact (((hx.far (by omega) (by omega) _).far (by omega) (by omega) _).far (by omega) (by omega) _).far (by omega) (by omega) _
  · simp at hj
theorem classes_next {K : Way} {g k : Nat} {w : World} {ms : Prg} (hk : k < ms.length) (hroom : Room w g (ms.length * 3)) (h : ∀ j x, (ms.take k)[j]? = some x → CAt K (g + 1) w g (0 + j * 3) x) {vf vm : Value} (hv : CV K (g + 1) w vf vm ms[k]) :
    ∀ j x, (ms.take (k + 1))[j]? = some x → CAt K (g + 1) (((w.setCell ⟨g, k * 3, none⟩ (.int .i64 ms[k].super)).setCell ⟨g, k * 3 + 1, none⟩ vf).setCell ⟨g, k * 3 + 2, none⟩ vm) g (0 + j * 3) x := by
  intro j x hj
  rw [List.getElem?_take] at hj
  split at hj
  · rename_i hlt
    by_cases e : j = k
    · subst e
      rw [List.getElem?_eq_getElem hk] at hj
      simp at hj
      subst hj
      obtain ⟨⟨x0, h0⟩, _⟩ := hroom (j * 3) (by omega)
      obtain ⟨⟨x1, h1⟩, _⟩ := hroom (j * 3 + 1) (by omega)
      obtain ⟨⟨x2, h2⟩, _⟩ := hroom (j * 3 + 2) (by omega)
      rw [Nat.zero_add]
      have k1 := Keep.set (B := g + 1) w (p := ⟨g, j * 3, none⟩) (by simp) (.int .i64 ms[j].super)
      refine ⟨vf, vm, ?_, ?_, ?_, hv.on ((k1.trans (Keep.set _ (p := ⟨g, j * 3 + 1, none⟩) (by simp) vf)).trans (Keep.set _ (p := ⟨g, j * 3 + 2, none⟩) (by simp) vm))⟩
      · rw [World.cell?_setCell_other _ _ _ _ (ne_off (by omega)), World.cell?_setCell_other _ _ _ _ (ne_off (by omega))]
        exact World.cell?_setCell_same _ _ _ h0
      · rw [World.cell?_setCell_other _ _ _ _ (ne_off (by omega))]
        exact World.cell?_setCell_same _ _ _ ((World.cell?_setCell_other _ _ _ _ (ne_off (by omega))).trans h1)
      · exact World.cell?_setCell_same _ _ _ ((World.cell?_setCell_other _ _ _ _ (ne_off (by omega))).trans ((World.cell?_setCell_other _ _ _ _ (ne_off (by omega))).trans h2))
    · have hx := h j x (by rw [List.getElem?_take, if_pos (by omega)]; exact hj)
      exact ((hx.far (by omega) (by omega) _).far (by omega) (by omega) _).far (by omega) (by omega) _
  · simp at hj

/-- All is short. -/
def SmallM (m : Meth) : Prop := m.args.length ≤ 1048576 ∧ m.code.length ≤ 1048576
def SmallC (c : Cls) : Prop := c.fields.length ≤ 1048576 ∧ c.meths.length ≤ 1048576 ∧ ∀ m ∈ c.meths, SmallM m
def SmallP (p : Prg) : Prop := p.length ≤ 1048576 ∧ ∀ c ∈ p, SmallC c
theorem SmallP.of {p : Prg} (h : szP p ≤ 1048576) : SmallP p := by
  refine ⟨by unfold szP at h; omega, fun c hc => ?_⟩
  have h1 := szC_le hc
  have e : szC c = c.fields.length + szMs c.meths := rfl
  have e2 : szMs c.meths = c.meths.length + sumN (c.meths.map szM) := rfl
  refine ⟨by omega, by omega, fun m hm => ?_⟩
  have h2 := szM_le hm
  have e3 : szM m = m.args.length + m.code.length := rfl
  exact ⟨by omega, by omega⟩

set_option maxRecDepth 100000 in
set_option maxHeartbeats 1000000 in
theorem toMethods (ms : List Meth) (a : Option Addr) (cap : Nat) (hn : ms.length ≤ 1048576) (hs : ∀ m ∈ ms, SmallM m) (w : World) (hm : SM wide 0 w (.slice a ms.length cap) ms) :
    Calls Tryz.prog 70 #[.slice a ms.length cap] w fun e w' => ∃ v, e = .returned v ∧ SM front w.heap.size w' v ms ∧ Below w.heap.size w w' := by
  obtain ⟨i0, hi, hz0, hz1, hz2⟩ := info_parts infoMe
  have HM : Hid (SM wide 0 w (.slice a ms.length cap) ms) := hm
  have HS : Hid (∀ m ∈ ms, SmallM m) := hs
  clear hm hs
  go_enter Tryz.func70, Tryz.ntmps70
  go_wp2_with (at_make; refine wpList_make_full _ rfl _ _ 50 rfl w.heap.size 55 i0 (.agg #[.int .i64 0, .slice none 0 0, .int .i64 0, .slice none 0 0]) 4 Tryz.underlying50 hi hz0 hz1 .i64 .i64 _ _ ms.length rfl rfl rfl rfl (by rw [hz2]; omega) (by unfold maxLen; omega) (Nat.le_refl _) ?_; intro w0 hown0 hgrow0)
  have hroom := room_own hown0 (Nat.le_refl _)
  have hsz0 : w.heap.size < w0.heap.size := row_made_lt hown0
  have hb0 : Below w.heap.size w w0 := (Below.refl _ _).grown hgrow0 (Nat.le_refl _) (fun _ h => by simp at h)
  clear hown0 hgrow0
  go_loopw [4] (fun i wr => ∃ k : Nat, k ≤ ms.length ∧ i = .int .i64 k ∧ Hid (Room wr w.heap.size (ms.length * 4)) ∧ Hid (∀ j x, (ms.take k)[j]? = some x → MAt front (w.heap.size + 1) wr w.heap.size (0 + j * 4) x) ∧ w.heap.size < wr.heap.size ∧ Below w.heap.size w wr) (fun i _ => ms.length - (intOf i).toNat)
  case atStart => exact ⟨0, Nat.zero_le _, rfl, hroom, fun j x h => by simp at h, hsz0, hb0⟩
  case round =>
    obtain ⟨k, hk, rfl, hrm, hrw, hsz, hb⟩ := hrel
    by_cases hlt : k < ms.length
    · obtain ⟨b, o, rfl, _, va, vc, h0, h1, h2, h3, hmv⟩ := (SM.on HM.out (Keep.of hb)).get hlt
      obtain ⟨aa, ca, rfl⟩ := hmv.1.form
      obtain ⟨ac, cc, rfl⟩ := wide.form hmv.2
      have HMA : Hid (SI false 0 wr (.slice aa ms[k].args.length ca) ms[k].args) := hmv.1
      have HMC : Hid (SC 0 wr (.slice ac ms[k].code.length cc) ms[k].code) := hmv.2
      have hsm := HS.out _ (List.getElem_mem hlt)
      obtain ⟨⟨x0, d0⟩, f0⟩ := hrm.out (k * 4) (by omega)
      obtain ⟨⟨x1, d1⟩, f1⟩ := hrm.out (k * 4 + 1) (by omega)
      obtain ⟨⟨x2, d2⟩, f2⟩ := hrm.out (k * 4 + 2) (by omega)
      obtain ⟨⟨x3, d3⟩, f3⟩ := hrm.out (k * 4 + 3) (by omega)
      have HN : Hid (∀ u, Below wr.heap.size wr u → ∀ va vc, MV front (w.heap.size + 1) u va vc ms[k] → ∀ j x, (ms.take (k + 1))[j]? = some x → MAt front (w.heap.size + 1) ((((u.setCell ⟨w.heap.size, k * 4, none⟩ (.int .i64 ms[k].name)).setCell ⟨w.heap.size, k * 4 + 1, none⟩ va).setCell ⟨w.heap.size, k * 4 + 2, none⟩ (.int .i64 ms[k].gives)).setCell ⟨w.heap.size, k * 4 + 3, none⟩ vc) w.heap.size (0 + j * 4) x) :=
        fun u hu va vc hv => meths_next hlt (hrm.out.on hu) (fun j x hj => by
          obtain ⟨q1, q2, c0, c1, c2, c3, c4⟩ := hrw.out j x hj
          have l : w.heap.size < wr.heap.size := hsz
          exact ⟨q1, q2, (hu.cell l).trans c0, (hu.cell l).trans c1, (hu.cell l).trans c2, (hu.cell l).trans c3, c4.on (Keep.of hu)⟩) hv
      clear hrw hmv HM
      generalize ms[k] = m at *
      go_wp2_with fail
      refine (toMethod m aa ac ca cc hsm.1 hsm.2 _ HMA.out HMC.out).mono ?_
      rintro e w1 ⟨va, vc, rfl, hv1, hb1⟩
      obtain ⟨a1, c1, rfl⟩ := hv1.1.form
      obtain ⟨a2, c2, rfl⟩ := front.form hv1.2
      have hw1 : Below w.heap.size w w1 := below_over hb hb1
      have hsz1 : w.heap.size < w1.heap.size := Nat.lt_of_lt_of_le hsz hb1.size
      have l0 : w.heap.size < wr.heap.size := hsz
      have d0' := (hb1.cell l0).trans d0
      have d1' := (hb1.cell l0).trans d1
      have d2' := (hb1.cell l0).trans d2
      have d3' := (hb1.cell l0).trans d3
      have f0' := (hb1.frozen l0).trans f0
      have f1' := (hb1.frozen l0).trans f1
      have f2' := (hb1.frozen l0).trans f2
      have f3' := (hb1.frozen l0).trans f3
      have HRM : Hid (Room w1 w.heap.size (ms.length * 4)) := hrm.out.on hb1
      have HNX : Hid (∀ j x, (ms.take (k + 1))[j]? = some x → MAt front (w.heap.size + 1) ((((w1.setCell ⟨w.heap.size, k * 4, none⟩ (.int .i64 m.name)).setCell ⟨w.heap.size, k * 4 + 1, none⟩ (.slice a1 m.args.length c1)).setCell ⟨w.heap.size, k * 4 + 2, none⟩ (.int .i64 m.gives)).setCell ⟨w.heap.size, k * 4 + 3, none⟩ (.slice a2 m.code.length c2)) w.heap.size (0 + j * 4) x) := HN.out w1 hb1 _ _ (hv1.weak hsz)
      clear d0 d1 d2 d3 f0 f1 f2 f3 h0 h1 h2 h3 hb1 hrm HN hb hv1 hsm HMA HMC
      go_wp2
      go_roundw
      case rel => exact ⟨k + 1, by omega, by go_num, (((HRM.out.set _ _).set _ _).set _ _).set _ _, HNX.out, by simpa using hsz1, (((hw1.setCell (Nat.le_refl _) _).setCell (Nat.le_refl _) _).setCell (Nat.le_refl _) _).setCell (Nat.le_refl _) _⟩
      case measure => simp [intOf]; omega
    · have e : ms.take k = ms := List.take_of_length_le (by omega)
      have HE := hrw.out
      rw [e] at HE
      have HEE : Hid (∀ j x, ms[j]? = some x → MAt front (w.heap.size + 1) wr w.heap.size (0 + j * 4) x) := HE
      clear HE e
      go_wp2
      go_ret
      exact ⟨_, rfl, ⟨_, _, rfl, fun _ h => by simp at h, fun _ => ⟨w.heap.size, 0, rfl, Nat.le_refl _, ⟨hsz, fun _ j hj => by rw [Nat.zero_add]; exact (hrm.out j hj).2⟩, fun j x hj => by
        obtain ⟨q1, q2, c0, c1, c2, c3, c4⟩ := HEE.out j x hj
        exact ⟨q1, q2, c0, c1, c2, c3, c4.weak (by omega)⟩⟩⟩, hb⟩

set_option maxRecDepth 100000 in
set_option maxHeartbeats 1000000 in
theorem toClass (c : Cls) (aa ac : Option Addr) (ca cc : Nat) (hs : SmallC c) (w : World) (hi : SI false 0 w (.slice aa c.fields.length ca) c.fields) (hc : SM wide 0 w (.slice ac c.meths.length cc) c.meths) :
    Calls Tryz.prog 48 #[.agg #[.int .i64 c.super, .slice aa c.fields.length ca, .slice ac c.meths.length cc]] w fun e w' => ∃ va vc, e = .returned (.agg #[.int .i64 c.super, va, vc]) ∧ CV front w.heap.size w' va vc c ∧ Below w.heap.size w w' := by
  have HI : Hid (SI false 0 w (.slice aa c.fields.length ca) c.fields) := hi
  have HC : Hid (SM wide 0 w (.slice ac c.meths.length cc) c.meths) := hc
  have h1 := hs.1
  have h2 := hs.2.1
  have HSM : Hid (∀ m ∈ c.meths, SmallM m) := hs.2.2
  clear hi hc hs
  go_enter Tryz.func48, Tryz.ntmps48
  go_wp2_with fail
  refine (toInts' aa ca c.fields h1 _ ?_).mono ?_
  · exact SI.on HI.out (Keep.of (by go_grown))
  rintro e w1 ⟨va, rfl, hi1, hb1⟩
  obtain ⟨a1, c1, rfl⟩ := hi1.form
  have hw1 : Below w.heap.size w w1 := below_over (by go_grown) hb1
  have A1 : Hid (Cells w1 w.heap.size [.int .i64 c.super, .slice aa c.fields.length ca, .slice ac c.meths.length cc]) := by
    show Cells _ _ _
    refine Cells.on ?_ hb1
    exact ((Cells.new w _ rfl _ _).alloc _).alloc _
  have R1 : Hid (Cells w1 (w.heap.size + 1) [.int .i64 0, .slice none 0 0, .slice none 0 0]) := by
    show Cells _ _ _
    refine Cells.on ?_ hb1
    exact (Cells.new (w.alloc _) _ (by simp) _ _).alloc _
  have O1 : Hid (Cells w1 (w.heap.size + 1 + 1) [.int .i64 c.super, .slice none 0 0, .slice none 0 0]) := by
    show Cells _ _ _
    refine Cells.on ?_ hb1
    exact Cells.new ((w.alloc _).alloc _) _ (by simp) _ _
  have HV1 : Hid (SI true (w.heap.size + 1 + 1 + 1) w1 (.slice a1 c.fields.length c1) c.fields) := SI.weak hi1 (by simp)
  have hz1 : w.heap.size + 1 + 1 + 1 ≤ w1.heap.size := by have := hb1.size; simpa using this
  clear hi1 hb1
  generalize hs : w.heap.size = s at *
  have HSS : Hid (w.heap.size = s) := hs
  clear hs
  obtain ⟨o1, p1⟩ := O1.out.g1
  have N21 : Hid (s + 1 + 1 ≠ s + 1) := by show s + 1 + 1 ≠ s + 1; omega
  have N20 : Hid (s + 1 + 1 ≠ s) := by show s + 1 + 1 ≠ s; omega
  have a3 := ((A1.out.far ⟨s + 1 + 1, 1, none⟩ (.slice a1 c.fields.length c1) N20.out).g2).1
  have O2 : Hid (Cells (w1.setCell ⟨s + 1 + 1, 1, none⟩ (.slice a1 c.fields.length c1)) (s + 1 + 1) [.int .i64 c.super, .slice a1 c.fields.length c1, .slice none 0 0]) := O1.out.s1 (.slice a1 c.fields.length c1)
  have R2 : Hid (Cells (w1.setCell ⟨s + 1 + 1, 1, none⟩ (.slice a1 c.fields.length c1)) (s + 1) [.int .i64 0, .slice none 0 0, .slice none 0 0]) := R1.out.far ⟨s + 1 + 1, 1, none⟩ (.slice a1 c.fields.length c1) N21.out
  have hk2 : Keep (s + 1 + 1 + 1) w1 (w1.setCell ⟨s + 1 + 1, 1, none⟩ (.slice a1 c.fields.length c1)) := Keep.set w1 (p := ⟨s + 1 + 1, 1, none⟩) (by simp) _
  have HV2 : Hid (SI true (s + 1 + 1 + 1) (w1.setCell ⟨s + 1 + 1, 1, none⟩ (.slice a1 c.fields.length c1)) (.slice a1 c.fields.length c1) c.fields) := SI.on HV1.out hk2
  have hz2 := Nat.le_trans hz1 hk2.size
  have HK2 : Hid (Below s w (w1.setCell ⟨s + 1 + 1, 1, none⟩ (.slice a1 c.fields.length c1))) := hw1.setCell (p := ⟨s + 1 + 1, 1, none⟩) (by simp; omega) _
  clear hk2 HV1 hw1 A1 R1 O1 hz1
  go_wp2_with fail
  generalize w1.setCell ⟨s + 1 + 1, 1, none⟩ (.slice a1 c.fields.length c1) = w2 at *
  refine (toMethods c.meths ac cc h2 HSM.out _ (SM.on HC.out (Keep.of (by rw [HSS.out]; exact HK2.out)))).mono ?_
  rintro e w3 ⟨vc, rfl, hc3, hb3⟩
  obtain ⟨a2, c2, rfl⟩ := hc3.form
  have O3 : Hid (Cells w3 (s + 1 + 1) [.int .i64 c.super, .slice a1 c.fields.length c1, .slice none 0 0]) := O2.out.on hb3
  have R3 := R2.out.on hb3
  have HV3 : Hid (SI true (s + 1 + 1 + 1) w3 (.slice a1 c.fields.length c1) c.fields) := SI.on HV2.out (Keep.of hb3)
  have HC3 : Hid (SM front (s + 1 + 1 + 1) w3 (.slice a2 c.meths.length c2) c.meths) := SM.weak hc3 hz2
  have HW3 : Hid (Below s w w3) := HK2.out.trans (hb3.mono (by omega))
  clear hc3 hb3 a3 o1 p1 O2 R2 HV2 HK2 hz2
  have O4 := O3.out.s2 (.slice a2 c.meths.length c2)
  have R4 := R3.far ⟨s + 1 + 1, 2, none⟩ (.slice a2 c.meths.length c2) N21.out
  have R5 := ((R4.s0 (.int .i64 c.super)).s1 (.slice a1 c.fields.length c1)).s2 (.slice a2 c.meths.length c2)
  obtain ⟨o3, p3⟩ := O3.out.g2
  obtain ⟨i0, _⟩ := O4.g0
  obtain ⟨i1, _⟩ := O4.g1
  obtain ⟨i2, _⟩ := O4.g2
  obtain ⟨r0, q0⟩ := R4.g0
  obtain ⟨r1, q1⟩ := R4.g1
  obtain ⟨r2, q2⟩ := R4.g2
  obtain ⟨e0, _⟩ := R5.g0
  obtain ⟨e1, _⟩ := R5.g1
  obtain ⟨e2, _⟩ := R5.g2
  clear O4 R4 R5 R3 O3
  go_wp2
  refine bodyPost_ret (v := .agg #[.int .i64 c.super, .slice a1 c.fields.length c1, .slice a2 c.meths.length c2]) (by simp [results, Tryz.results48, go_sem, e0, e1, e2]) rfl ?_
  rw [HSS.out]
  have hk : ∀ (u : World) (j i : Nat) (x : Value), j < s + 1 + 1 + 1 → Keep (s + 1 + 1 + 1) u (u.setCell ⟨j, i, none⟩ x) := fun u j i x hj => Keep.set u (p := ⟨j, i, none⟩) hj x
  have hkk := (((hk w3 (s + 1 + 1) 2 (.slice a2 c.meths.length c2) (by omega)).trans (hk _ (s + 1) 0 (.int .i64 c.super) (by omega))).trans (hk _ (s + 1) 1 (.slice a1 c.fields.length c1) (by omega))).trans (hk _ (s + 1) 2 (.slice a2 c.meths.length c2) (by omega))
  have hbb := (((HW3.out.setCell (p := ⟨s + 1 + 1, 2, none⟩) (by simp; omega) (.slice a2 c.meths.length c2)).setCell (p := ⟨s + 1, 0, none⟩) (by simp) (.int .i64 c.super)).setCell (p := ⟨s + 1, 1, none⟩) (by simp) (.slice a1 c.fields.length c1)).setCell (p := ⟨s + 1, 2, none⟩) (by simp) (.slice a2 c.meths.length c2)
  exact ⟨_, _, rfl, ⟨SI.weak (SI.on HV3.out hkk) (by omega), SM.weak (SM.on HC3.out hkk) (by omega)⟩, hbb⟩

set_option maxRecDepth 100000 in
set_option maxHeartbeats 1000000 in
theorem toClasses (ms : Prg) (a : Option Addr) (cap : Nat) (hs0 : SmallP ms) (w : World) (hm : SK wide 0 w (.slice a ms.length cap) ms) :
    Calls Tryz.prog 26 #[.slice a ms.length cap] w fun e w' => ∃ v, e = .returned v ∧ SK front w.heap.size w' v ms ∧ Below w.heap.size w w' := by
  obtain ⟨i0, hi, hz0, hz1, hz2⟩ := info_parts infoCl
  have hn := hs0.1
  have HM : Hid (SK wide 0 w (.slice a ms.length cap) ms) := hm
  have HS : Hid (∀ m ∈ ms, SmallC m) := hs0.2
  clear hm hs0
  go_enter Tryz.func26, Tryz.ntmps26
  go_wp2_with (at_make; refine wpList_make_full _ rfl _ _ 28 rfl w.heap.size 52 i0 (.agg #[.int .i64 0, .slice none 0 0, .slice none 0 0]) 3 Tryz.underlying28 hi hz0 hz1 .i64 .i64 _ _ ms.length rfl rfl rfl rfl (by rw [hz2]; omega) (by unfold maxLen; omega) (Nat.le_refl _) ?_; intro w0 hown0 hgrow0)
  have hroom := room_own hown0 (Nat.le_refl _)
  have hsz0 : w.heap.size < w0.heap.size := row_made_lt hown0
  have hb0 : Below w.heap.size w w0 := (Below.refl _ _).grown hgrow0 (Nat.le_refl _) (fun _ h => by simp at h)
  clear hown0 hgrow0
  go_loopw [4] (fun i wr => ∃ k : Nat, k ≤ ms.length ∧ i = .int .i64 k ∧ Hid (Room wr w.heap.size (ms.length * 3)) ∧ Hid (∀ j x, (ms.take k)[j]? = some x → CAt front (w.heap.size + 1) wr w.heap.size (0 + j * 3) x) ∧ w.heap.size < wr.heap.size ∧ Below w.heap.size w wr) (fun i _ => ms.length - (intOf i).toNat)
  case atStart => exact ⟨0, Nat.zero_le _, rfl, hroom, fun j x h => by simp at h, hsz0, hb0⟩
  case round =>
    obtain ⟨k, hk, rfl, hrm, hrw, hsz, hb⟩ := hrel
    by_cases hlt : k < ms.length
    · obtain ⟨b, o, rfl, _, va, vc, h0, h1, h2, hmv⟩ := (SK.on HM.out (Keep.of hb)).get hlt
      obtain ⟨aa, ca, rfl⟩ := hmv.1.form
      obtain ⟨ac, cc, rfl⟩ := hmv.2.form
      have HMA : Hid (SI false 0 wr (.slice aa ms[k].fields.length ca) ms[k].fields) := hmv.1
      have HMC : Hid (SM wide 0 wr (.slice ac ms[k].meths.length cc) ms[k].meths) := hmv.2
      have HSM : Hid (SmallC ms[k]) := HS.out _ (List.getElem_mem hlt)
      obtain ⟨⟨x0, d0⟩, f0⟩ := hrm.out (k * 3) (by omega)
      obtain ⟨⟨x1, d1⟩, f1⟩ := hrm.out (k * 3 + 1) (by omega)
      obtain ⟨⟨x2, d2⟩, f2⟩ := hrm.out (k * 3 + 2) (by omega)
      have HN : Hid (∀ u, Below wr.heap.size wr u → ∀ va vc, CV front (w.heap.size + 1) u va vc ms[k] → ∀ j x, (ms.take (k + 1))[j]? = some x → CAt front (w.heap.size + 1) (((u.setCell ⟨w.heap.size, k * 3, none⟩ (.int .i64 ms[k].super)).setCell ⟨w.heap.size, k * 3 + 1, none⟩ va).setCell ⟨w.heap.size, k * 3 + 2, none⟩ vc) w.heap.size (0 + j * 3) x) :=
        fun u hu va vc hv => classes_next hlt (hrm.out.on hu) (fun j x hj => by
          obtain ⟨q1, q2, c0, c1, c2, c4⟩ := hrw.out j x hj
          have l : w.heap.size < wr.heap.size := hsz
          exact ⟨q1, q2, (hu.cell l).trans c0, (hu.cell l).trans c1, (hu.cell l).trans c2, c4.on (Keep.of hu)⟩) hv
      clear hrw hmv HM
      generalize ms[k] = m at *
      go_wp2_with fail
      refine (toClass m aa ac ca cc HSM.out _ HMA.out HMC.out).mono ?_
      rintro e w1 ⟨va, vc, rfl, hv1, hb1⟩
      obtain ⟨a1, c1, rfl⟩ := hv1.1.form
      obtain ⟨a2, c2, rfl⟩ := hv1.2.form
      have hw1 : Below w.heap.size w w1 := below_over hb hb1
      have hsz1 : w.heap.size < w1.heap.size := Nat.lt_of_lt_of_le hsz hb1.size
      have l0 : w.heap.size < wr.heap.size := hsz
      have d0' := (hb1.cell l0).trans d0
      have d1' := (hb1.cell l0).trans d1
      have d2' := (hb1.cell l0).trans d2
      have f0' := (hb1.frozen l0).trans f0
      have f1' := (hb1.frozen l0).trans f1
      have f2' := (hb1.frozen l0).trans f2
      have HRM : Hid (Room w1 w.heap.size (ms.length * 3)) := hrm.out.on hb1
      have HNX : Hid (∀ j x, (ms.take (k + 1))[j]? = some x → CAt front (w.heap.size + 1) (((w1.setCell ⟨w.heap.size, k * 3, none⟩ (.int .i64 m.super)).setCell ⟨w.heap.size, k * 3 + 1, none⟩ (.slice a1 m.fields.length c1)).setCell ⟨w.heap.size, k * 3 + 2, none⟩ (.slice a2 m.meths.length c2)) w.heap.size (0 + j * 3) x) := HN.out w1 hb1 _ _ (hv1.weak hsz)
      clear d0 d1 d2 f0 f1 f2 h0 h1 h2 hb1 hrm HN hb hv1 HSM HMA HMC
      go_wp2
      go_roundw
      case rel => exact ⟨k + 1, by omega, by go_num, ((HRM.out.set _ _).set _ _).set _ _, HNX.out, by simpa using hsz1, ((hw1.setCell (Nat.le_refl _) _).setCell (Nat.le_refl _) _).setCell (Nat.le_refl _) _⟩
      case measure => simp [intOf]; omega
    · have e : ms.take k = ms := List.take_of_length_le (by omega)
      have HE := hrw.out
      rw [e] at HE
      have HEE : Hid (∀ j x, ms[j]? = some x → CAt front (w.heap.size + 1) wr w.heap.size (0 + j * 3) x) := HE
      clear HE e
      go_wp2
      go_ret
      exact ⟨_, rfl, ⟨_, _, rfl, fun _ h => by simp at h, fun _ => ⟨w.heap.size, 0, rfl, Nat.le_refl _, ⟨hsz, fun _ j hj => by rw [Nat.zero_add]; exact (hrm.out j hj).2⟩, fun j x hj => by
        obtain ⟨q1, q2, c0, c1, c2, c4⟩ := HEE.out j x hj
        exact ⟨q1, q2, c0, c1, c2, c4.weak (by omega)⟩⟩⟩, hb⟩

set_option maxRecDepth 100000 in
set_option maxHeartbeats 1000000 in
theorem toProgram (p : Prg) (a : Option Addr) (cap : Nat) (hs : SmallP p) (w : World) (hm : SK wide 0 w (.slice a p.length cap) p) :
    Calls Tryz.prog 9 #[.agg #[.slice a p.length cap]] w fun e w' => ∃ v, e = .returned (.agg #[v]) ∧ SK front w.heap.size w' v p ∧ Below w.heap.size w w' := by
  have HM : Hid (SK wide 0 w (.slice a p.length cap) p) := hm
  have HS : Hid (SmallP p) := hs
  clear hm hs
  go_enter Tryz.func9, Tryz.ntmps9
  go_wp2_with fail
  refine (toClasses p a cap HS.out _ ?_).mono ?_
  · exact SK.on HM.out (Keep.of (by go_grown))
  rintro e w1 ⟨v, rfl, hv, hb1⟩
  obtain ⟨a1, c1, rfl⟩ := hv.form
  have hw1 : Below w.heap.size w w1 := below_over (by go_grown) hb1
  have R1 : Hid (Cells w1 (w.heap.size + 1) [.slice none 0 0]) := by
    show Cells _ _ _
    refine Cells.on ?_ hb1
    exact (Cells.new (w.alloc _) _ (by simp) _ _).alloc _
  have O1 : Hid (Cells w1 (w.heap.size + 1 + 1) [.slice none 0 0]) := by
    show Cells _ _ _
    refine Cells.on ?_ hb1
    exact Cells.new ((w.alloc _).alloc _) _ (by simp) _ _
  have HV1 : Hid (SK front (w.heap.size + 1 + 1 + 1) w1 (.slice a1 p.length c1) p) := SK.weak hv (by simp)
  clear hv hb1
  generalize hs : w.heap.size = s at *
  have HSS : Hid (w.heap.size = s) := hs
  clear hs
  have N21 : Hid (s + 1 + 1 ≠ s + 1) := by show s + 1 + 1 ≠ s + 1; omega
  have O4 := O1.out.s0 (.slice a1 p.length c1)
  have R4 := R1.out.far ⟨s + 1 + 1, 0, none⟩ (.slice a1 p.length c1) N21.out
  have R5 := R4.s0 (.slice a1 p.length c1)
  obtain ⟨o3, p3⟩ := O1.out.g0
  obtain ⟨i0, _⟩ := O4.g0
  obtain ⟨r0, q0⟩ := R4.g0
  obtain ⟨e0, _⟩ := R5.g0
  have HW : Hid (Below s w w1) := hw1
  clear O4 R4 R5 R1 O1 hw1
  go_wp2
  refine bodyPost_ret (v := .agg #[.slice a1 p.length c1]) (by simp [results, Tryz.results9, go_sem, e0]) rfl ?_
  rw [HSS.out]
  have hk : ∀ (u : World) (j i : Nat) (x : Value), j < s + 1 + 1 + 1 → Keep (s + 1 + 1 + 1) u (u.setCell ⟨j, i, none⟩ x) := fun u j i x hj => Keep.set u (p := ⟨j, i, none⟩) hj x
  have hkk := (hk w1 (s + 1 + 1) 0 (.slice a1 p.length c1) (by omega)).trans (hk _ (s + 1) 0 (.slice a1 p.length c1) (by omega))
  have hbb := (HW.out.setCell (p := ⟨s + 1 + 1, 0, none⟩) (by simp; omega) (.slice a1 p.length c1)).setCell (p := ⟨s + 1, 0, none⟩) (by simp) (.slice a1 p.length c1)
  exact ⟨_, rfl, SK.weak (SK.on HV1.out hkk) (by omega), hbb⟩
end Pg
end Go.Proofs.YtinanjjhkddikaaGreat

/- Contracts of the laws' own comparing of programs, where both are the same. -/
namespace Go.Proofs.YtinanjjhkddikaaGreat
namespace Pg
open Go.ChangeShapes Go.WideShapes Go.ChangeAt Go.RowKit St

set_option maxHeartbeats 800000 in
theorem eqInts' {f f' : Bool} (B B' : Nat) (a a' : Option Addr) (cap cap' : Nat) (l : List Int) (hl : l.length ≤ 1048576) (w : World) (h1 : SI f B w (.slice a l.length cap) l) (h2 : SI f' B' w (.slice a' l.length cap') l) :
    Calls Tryz.prog 11 #[.slice a l.length cap, .slice a' l.length cap'] w fun e w' => e = .returned (.bool true) ∧ Below w.heap.size w w' := by
  have H1 : Hid (SI f B w (.slice a l.length cap) l) := h1
  have H2 : Hid (SI f' B' w (.slice a' l.length cap') l) := h2
  clear h1 h2
  go_enter Tryz.func11, Tryz.ntmps11
  go_wp2
  go_loopw [5] (fun i wr => ∃ k : Nat, k ≤ l.length ∧ i = .int .i64 k ∧ Below w.heap.size w wr) (fun i _ => l.length - (intOf i).toNat)
  case atStart => exact ⟨0, Nat.zero_le _, rfl, Below.refl _ _⟩
  case round =>
    obtain ⟨k, hk, rfl, hb⟩ := hrel
    by_cases hlt : k < l.length
    · obtain ⟨b, o, rfl, _, a0⟩ := (SI.on H1.out (Keep.of hb)).get hlt
      obtain ⟨b', o', rfl, _, b0⟩ := (SI.on H2.out (Keep.of hb)).get hlt
      unfold IntAt at a0 b0
      rw [Nat.mul_one] at a0 b0
      generalize l[k] = x at *
      have hki : (k : Int) < (l.length : Int) := by omega
      have hki0 : (0 : Int) ≤ (k : Int) := by omega
      have r0 := cell_regrown a0
      have s0 := cell_regrown b0
      go_wp2_with fail
      refine wp_region_quiet_below (by kernel_rfl) (by kernel_rfl) ?_
      repeat (quiet_step (fail))
      refine wpQuiet_nil ?_
      intro _ hw'
      obtain ⟨⟨dq, osq⟩, hw''⟩ := hw'
      subst hw''
      have hw1 : Below w.heap.size w (Sort.grow (redrawn wr dq) osq) := below_over hb (below_regrown wr dq osq)
      clear a0 b0 r0 s0 hb
      generalize Sort.grow (redrawn wr dq) osq = w1 at *
      go_wp2
      go_roundw
      case rel => exact ⟨k + 1, by omega, by go_num, hw1⟩
      case measure => simp [intOf]; omega
    · go_wp2
      go_ret
      exact ⟨rfl, hb⟩
theorem eqRow' (B B' : Nat) (v v' : Value) (l : List Tx.Ins) (hl : l.length ≤ 1048576) (w : World) (h1 : CS B w v l) (h2 : CS B' w v' l) :
    Calls Tryz.prog 100 #[v, v'] w fun e w' => e = .returned (.bool true) ∧ Below w.heap.size w w' := by
  obtain ⟨g, cap, rfl, _, _, r1, _⟩ := h1
  obtain ⟨g', cap', rfl, _, _, r2, _⟩ := h2
  exact eqRows g g' cap cap' l hl w r1 r2

set_option maxHeartbeats 800000 in
theorem eqMethod (B B' : Nat) (m : Meth) (aa aa' ac ac' : Option Addr) (ca ca' cc cc' : Nat) (hs : SmallM m) (w : World) (h1 : MV front B w (.slice aa m.args.length ca) (.slice ac m.code.length cc) m) (h2 : MV front B' w (.slice aa' m.args.length ca') (.slice ac' m.code.length cc') m) :
    Calls Tryz.prog 87 #[.agg #[.int .i64 m.name, .slice aa m.args.length ca, .int .i64 m.gives, .slice ac m.code.length cc], .agg #[.int .i64 m.name, .slice aa' m.args.length ca', .int .i64 m.gives, .slice ac' m.code.length cc']] w fun e w' => e = .returned (.bool true) ∧ Below w.heap.size w w' := by
  have H1 : Hid (MV front B w (.slice aa m.args.length ca) (.slice ac m.code.length cc) m) := h1
  have H2 : Hid (MV front B' w (.slice aa' m.args.length ca') (.slice ac' m.code.length cc') m) := h2
  have hs1 := hs.1
  have hs2 := hs.2
  clear h1 h2 hs
  go_enter Tryz.func87, Tryz.ntmps87
  go_wp2_with fail
  refine (eqInts' (f := true) (f' := true) B B' aa aa' ca ca' m.args hs1 _ ?_ ?_).mono ?_
  · exact SI.on H1.out.1 (Keep.of (by go_grown))
  · exact SI.on H2.out.1 (Keep.of (by go_grown))
  rintro e w1 ⟨rfl, hb1⟩
  have hw1 : Below w.heap.size w w1 := below_over (by go_grown) hb1
  have A1 : Cells w1 w.heap.size [.int .i64 m.name, .slice aa m.args.length ca, .int .i64 m.gives, .slice ac m.code.length cc] := by
    refine Cells.on ?_ hb1
    exact (Cells.new w _ rfl _ _).alloc _
  have B1 : Cells w1 (w.heap.size + 1) [.int .i64 m.name, .slice aa' m.args.length ca', .int .i64 m.gives, .slice ac' m.code.length cc'] := by
    refine Cells.on ?_ hb1
    exact Cells.new (w.alloc _) _ (by simp) _ _
  have a2 := A1.g2.1
  have a3 := A1.g3.1
  have b2 := B1.g2.1
  have b3 := B1.g3.1
  clear A1 B1 hb1
  go_wp2_with fail
  refine (eqRow' B B' _ _ m.code hs2 _ (front.on H1.out.2 (Keep.of hw1)) (front.on H2.out.2 (Keep.of hw1))).mono ?_
  rintro e w2 ⟨rfl, hb2⟩
  have hw2 : Below w.heap.size w w2 := below_over hw1 hb2
  clear hb2 hw1 a2 a3 b2 b3
  go_wp2
  go_ret
  exact ⟨rfl, hw2⟩

set_option maxRecDepth 100000 in
set_option maxHeartbeats 1000000 in
theorem eqMethods (B B' : Nat) (a a' : Option Addr) (cap cap' : Nat) (ms : List Meth) (hn : ms.length ≤ 1048576) (hs : ∀ m ∈ ms, SmallM m) (w : World) (h1 : SM front B w (.slice a ms.length cap) ms) (h2 : SM front B' w (.slice a' ms.length cap') ms) :
    Calls Tryz.prog 71 #[.slice a ms.length cap, .slice a' ms.length cap'] w fun e w' => e = .returned (.bool true) ∧ Below w.heap.size w w' := by
  have H1 : Hid (SM front B w (.slice a ms.length cap) ms) := h1
  have H2 : Hid (SM front B' w (.slice a' ms.length cap') ms) := h2
  have HS : Hid (∀ m ∈ ms, SmallM m) := hs
  clear h1 h2 hs
  go_enter Tryz.func71, Tryz.ntmps71
  go_wp2
  go_loopw [5] (fun i wr => ∃ k : Nat, k ≤ ms.length ∧ i = .int .i64 k ∧ Below w.heap.size w wr) (fun i _ => ms.length - (intOf i).toNat)
  case atStart => exact ⟨0, Nat.zero_le _, rfl, Below.refl _ _⟩
  case round =>
    obtain ⟨k, hk, rfl, hb⟩ := hrel
    by_cases hlt : k < ms.length
    · obtain ⟨b, o, rfl, _, va, vc, a0, a1, a2, a3, hma⟩ := (SM.on H1.out (Keep.of hb)).get hlt
      obtain ⟨b', o', rfl, _, va', vc', b0, b1, b2, b3, hmb⟩ := (SM.on H2.out (Keep.of hb)).get hlt
      obtain ⟨x1, y1, rfl⟩ := hma.1.form
      obtain ⟨x2, y2, rfl⟩ := front.form hma.2
      obtain ⟨x3, y3, rfl⟩ := hmb.1.form
      obtain ⟨x4, y4, rfl⟩ := front.form hmb.2
      have hsm := HS.out _ (List.getElem_mem hlt)
      generalize ms[k] = m at *
      have hki : (k : Int) < (ms.length : Int) := by omega
      have hki0 : (0 : Int) ≤ (k : Int) := by omega
      have r0 := cell_regrown a0
      have r1 := cell_regrown a1
      have r2 := cell_regrown a2
      have r3 := cell_regrown a3
      have s0 := cell_regrown b0
      have s1 := cell_regrown b1
      have s2 := cell_regrown b2
      have s3 := cell_regrown b3
      have cE : ∀ d os, Calls Tryz.prog 87 #[.agg #[.int .i64 m.name, .slice x1 m.args.length y1, .int .i64 m.gives, .slice x2 m.code.length y2], .agg #[.int .i64 m.name, .slice x3 m.args.length y3, .int .i64 m.gives, .slice x4 m.code.length y4]] (Sort.grow (redrawn wr d) os) fun e w'' => e = .returned (.bool true) ∧ ∃ p : Regrown, w'' = Sort.grow (redrawn wr p.d) p.os := by
        intro d os
        exact Calls.regrown_of (eqMethod B B' m x1 x3 x2 x4 y1 y3 y2 y4 hsm _ (hma.on (Keep.of (below_regrown wr d os))) (hmb.on (Keep.of (below_regrown wr d os))))
      clear hma hmb hsm
      go_wp2_with fail
      refine wp_region_quiet_below (by kernel_rfl) (by kernel_rfl) ?_
      repeat (quiet_step ((go_at_call 87; exact cE _ _)))
      refine wpQuiet_nil ?_
      intro _ hw'
      obtain ⟨⟨dq, osq⟩, hw''⟩ := hw'
      subst hw''
      have hw1 : Below w.heap.size w (Sort.grow (redrawn wr dq) osq) := below_over hb (below_regrown wr dq osq)
      clear a0 a1 a2 a3 b0 b1 b2 b3 r0 r1 r2 r3 s0 s1 s2 s3 cE hb
      generalize Sort.grow (redrawn wr dq) osq = w1 at *
      go_wp2
      go_roundw
      case rel => exact ⟨k + 1, by omega, by go_num, hw1⟩
      case measure => simp [intOf]; omega
    · go_wp2
      go_ret
      exact ⟨rfl, hb⟩

set_option maxHeartbeats 800000 in
theorem eqClass (B B' : Nat) (c : Cls) (aa aa' ac ac' : Option Addr) (ca ca' cc cc' : Nat) (hs : SmallC c) (w : World) (h1 : CV front B w (.slice aa c.fields.length ca) (.slice ac c.meths.length cc) c) (h2 : CV front B' w (.slice aa' c.fields.length ca') (.slice ac' c.meths.length cc') c) :
    Calls Tryz.prog 49 #[.agg #[.int .i64 c.super, .slice aa c.fields.length ca, .slice ac c.meths.length cc], .agg #[.int .i64 c.super, .slice aa' c.fields.length ca', .slice ac' c.meths.length cc']] w fun e w' => e = .returned (.bool true) ∧ Below w.heap.size w w' := by
  have H1 : Hid (CV front B w (.slice aa c.fields.length ca) (.slice ac c.meths.length cc) c) := h1
  have H2 : Hid (CV front B' w (.slice aa' c.fields.length ca') (.slice ac' c.meths.length cc') c) := h2
  have hs1 := hs.1
  have hs2 := hs.2.1
  have HS3 : Hid (∀ m ∈ c.meths, SmallM m) := hs.2.2
  clear h1 h2 hs
  go_enter Tryz.func49, Tryz.ntmps49
  go_wp2_with fail
  refine (eqInts' (f := true) (f' := true) B B' aa aa' ca ca' c.fields hs1 _ ?_ ?_).mono ?_
  · exact SI.on H1.out.1 (Keep.of (by go_grown))
  · exact SI.on H2.out.1 (Keep.of (by go_grown))
  rintro e w1 ⟨rfl, hb1⟩
  have hw1 : Below w.heap.size w w1 := below_over (by go_grown) hb1
  have A1 : Cells w1 w.heap.size [.int .i64 c.super, .slice aa c.fields.length ca, .slice ac c.meths.length cc] := by
    refine Cells.on ?_ hb1
    exact (Cells.new w _ rfl _ _).alloc _
  have B1 : Cells w1 (w.heap.size + 1) [.int .i64 c.super, .slice aa' c.fields.length ca', .slice ac' c.meths.length cc'] := by
    refine Cells.on ?_ hb1
    exact Cells.new (w.alloc _) _ (by simp) _ _
  have a2 := A1.g2.1
  have b2 := B1.g2.1
  clear A1 B1 hb1
  go_wp2_with fail
  refine (eqMethods B B' ac ac' cc cc' c.meths hs2 HS3.out _ (SM.on H1.out.2 (Keep.of hw1)) (SM.on H2.out.2 (Keep.of hw1))).mono ?_
  rintro e w2 ⟨rfl, hb2⟩
  have hw2 : Below w.heap.size w w2 := below_over hw1 hb2
  clear hb2 hw1 a2 b2
  go_wp2
  go_ret
  exact ⟨rfl, hw2⟩

set_option maxRecDepth 100000 in
set_option maxHeartbeats 1000000 in
theorem eqClasses (B B' : Nat) (a a' : Option Addr) (cap cap' : Nat) (ms : Prg) (hs : SmallP ms) (w : World) (h1 : SK front B w (.slice a ms.length cap) ms) (h2 : SK front B' w (.slice a' ms.length cap') ms) :
    Calls Tryz.prog 28 #[.slice a ms.length cap, .slice a' ms.length cap'] w fun e w' => e = .returned (.bool true) ∧ Below w.heap.size w w' := by
  have H1 : Hid (SK front B w (.slice a ms.length cap) ms) := h1
  have H2 : Hid (SK front B' w (.slice a' ms.length cap') ms) := h2
  have hn := hs.1
  have HS : Hid (∀ m ∈ ms, SmallC m) := hs.2
  clear h1 h2 hs
  go_enter Tryz.func28, Tryz.ntmps28
  go_wp2
  go_loopw [5] (fun i wr => ∃ k : Nat, k ≤ ms.length ∧ i = .int .i64 k ∧ Below w.heap.size w wr) (fun i _ => ms.length - (intOf i).toNat)
  case atStart => exact ⟨0, Nat.zero_le _, rfl, Below.refl _ _⟩
  case round =>
    obtain ⟨k, hk, rfl, hb⟩ := hrel
    by_cases hlt : k < ms.length
    · obtain ⟨b, o, rfl, _, va, vc, a0, a1, a2, hma⟩ := (SK.on H1.out (Keep.of hb)).get hlt
      obtain ⟨b', o', rfl, _, va', vc', b0, b1, b2, hmb⟩ := (SK.on H2.out (Keep.of hb)).get hlt
      obtain ⟨x1, y1, rfl⟩ := hma.1.form
      obtain ⟨x2, y2, rfl⟩ := hma.2.form
      obtain ⟨x3, y3, rfl⟩ := hmb.1.form
      obtain ⟨x4, y4, rfl⟩ := hmb.2.form
      have hsm := HS.out _ (List.getElem_mem hlt)
      generalize ms[k] = m at *
      have hki : (k : Int) < (ms.length : Int) := by omega
      have hki0 : (0 : Int) ≤ (k : Int) := by omega
      have r0 := cell_regrown a0
      have r1 := cell_regrown a1
      have r2 := cell_regrown a2
      have s0 := cell_regrown b0
      have s1 := cell_regrown b1
      have s2 := cell_regrown b2
      have cE : ∀ d os, Calls Tryz.prog 49 #[.agg #[.int .i64 m.super, .slice x1 m.fields.length y1, .slice x2 m.meths.length y2], .agg #[.int .i64 m.super, .slice x3 m.fields.length y3, .slice x4 m.meths.length y4]] (Sort.grow (redrawn wr d) os) fun e w'' => e = .returned (.bool true) ∧ ∃ p : Regrown, w'' = Sort.grow (redrawn wr p.d) p.os := by
        intro d os
        exact Calls.regrown_of (eqClass B B' m x1 x3 x2 x4 y1 y3 y2 y4 hsm _ (hma.on (Keep.of (below_regrown wr d os))) (hmb.on (Keep.of (below_regrown wr d os))))
      clear hma hmb hsm
      go_wp2_with fail
      refine wp_region_quiet_below (by kernel_rfl) (by kernel_rfl) ?_
      repeat (quiet_step ((go_at_call 49; exact cE _ _)))
      refine wpQuiet_nil ?_
      intro _ hw'
      obtain ⟨⟨dq, osq⟩, hw''⟩ := hw'
      subst hw''
      have hw1 : Below w.heap.size w (Sort.grow (redrawn wr dq) osq) := below_over hb (below_regrown wr dq osq)
      clear a0 a1 a2 b0 b1 b2 r0 r1 r2 s0 s1 s2 cE hb
      generalize Sort.grow (redrawn wr dq) osq = w1 at *
      go_wp2
      go_roundw
      case rel => exact ⟨k + 1, by omega, by go_num, hw1⟩
      case measure => simp [intOf]; omega
    · go_wp2
      go_ret
      exact ⟨rfl, hb⟩

set_option maxHeartbeats 800000 in
theorem eqProgram (B B' : Nat) (v v' : Value) (p : Prg) (hs : SmallP p) (w : World) (h1 : SK front B w v p) (h2 : SK front B' w v' p) :
    Calls Tryz.prog 12 #[.agg #[v], .agg #[v']] w fun e w' => e = .returned (.bool true) ∧ Below w.heap.size w w' := by
  obtain ⟨a, cap, rfl⟩ := h1.form
  obtain ⟨a', cap', rfl⟩ := h2.form
  have H1 : Hid (SK front B w (.slice a p.length cap) p) := h1
  have H2 : Hid (SK front B' w (.slice a' p.length cap') p) := h2
  have HS : Hid (SmallP p) := hs
  clear h1 h2 hs
  go_enter Tryz.func12, Tryz.ntmps12
  go_wp2_with fail
  refine (eqClasses B B' a a' cap cap' p HS.out _ ?_ ?_).mono ?_
  · exact SK.on H1.out (Keep.of (by go_grown))
  · exact SK.on H2.out (Keep.of (by go_grown))
  rintro e w1 ⟨rfl, hb1⟩
  have hw1 : Below w.heap.size w w1 := below_over (by go_grown) hb1
  clear hb1
  go_wp2
  go_ret
  exact ⟨rfl, hw1⟩
end Pg
end Go.Proofs.YtinanjjhkddikaaGreat

/- Contracts of the two sides' small functions on the layout: which step is a jump, and its bytes. -/
namespace Go.Proofs.YtinanjjhkddikaaGreat
namespace St
open Go.ChangeShapes Go.WideShapes Go.ChangeAt Go.RowKit

theorem jump_cases (op : Int) : (op = 11 ∧ Lay.jumpB op = true) ∨ (op = 12 ∧ Lay.jumpB op = true) ∨ (¬ op = 11 ∧ ¬ op = 12 ∧ Lay.jumpB op = false) := by
  unfold Lay.jumpB
  by_cases h1 : op = 11
  · simp [h1]
  · by_cases h2 : op = 12
    · simp [h2]
    · simp [h1, h2]
theorem boxC {w w1 : World} {x y z : Value} {t : TypeId} (hb : Below (w.alloc (.cells #[x, y, z] t)).heap.size (w.alloc (.cells #[x, y, z] t)) w1) :
    w1.cell? ⟨w.heap.size, 0, none⟩ = some x ∧ w1.cell? ⟨w.heap.size, 1, none⟩ = some y ∧ w1.cell? ⟨w.heap.size, 2, none⟩ = some z :=
  ⟨(hb.cell (by simp)).trans (by simp), (hb.cell (by simp)).trans (by simp), (hb.cell (by simp)).trans (by simp)⟩
theorem allocC (w : World) (x y z : Value) (t : TypeId) : (w.alloc (.cells #[x, y, z] t)).cell? ⟨w.heap.size, 0, none⟩ = some x ∧ (w.alloc (.cells #[x, y, z] t)).cell? ⟨w.heap.size, 1, none⟩ = some y ∧ (w.alloc (.cells #[x, y, z] t)).cell? ⟨w.heap.size, 2, none⟩ = some z := ⟨by simp, by simp, by simp⟩
theorem retI {a b : Int} (h : a = b) : Ending.returned (.int .i64 a) = .returned (.int .i64 b) := by rw [h]

set_option maxHeartbeats 800000 in
theorem isJump (op a b : Int) (w : World) :
    Calls Tryz.prog 102 #[.agg #[.int .i64 op, .int .i64 a, .int .i64 b]] w fun e w' => e = .returned (.bool (Lay.jumpB op)) ∧ Below w.heap.size w w' := by
  by_cases h : op = 11
  · subst h
    go_enter Tryz.func102, Tryz.ntmps102
    go_wp2
    go_ret
    exact ⟨rfl, by go_grown⟩
  · go_enter Tryz.func102, Tryz.ntmps102
    go_wp2
    go_ret
    exact ⟨rfl, by go_grown⟩
theorem l3Jump (op : Int) (w : World) :
    Calls Tryz.prog 85 #[.int .i64 op] w fun e w' => e = .returned (.bool (Lay.jumpB op)) ∧ w = w' := by
  by_cases h : op = 11
  · subst h
    go_enter Tryz.func85, Tryz.ntmps85
    go_wp2
    go_ret
    exact ⟨rfl, rfl⟩
  · go_enter Tryz.func85, Tryz.ntmps85
    go_wp2
    go_ret
    exact ⟨rfl, rfl⟩
end St
end Go.Proofs.YtinanjjhkddikaaGreat
