/- Contracts of the laws' marking of a row of steps. -/
import Derived.Test.YtffkkhaiedhaiaaJRow1
import Derived.Laws.OwnMore
import Derived.Test.YtffkkhaiedhaiaaJStep0
namespace Go.Proofs.Ytffkkhaiedhaiaa
namespace St
open Go.ChangeShapes Go.WideShapes Go.ChangeAt Go.RowKit

/-- The marks 1, 2, 3 .. -/
def marks (n : Nat) : List Tx.Ins := (List.range n).map fun (j : Nat) => (((j : Int) * 3 + 1, (j : Int) * 3 + 2, (j : Int) * 3 + 3) : Tx.Ins)
/-- Only block g has turned. -/
structure Only (g : Nat) (u v : World) : Prop where
  os : v.os = u.os
  tape : v.tape = u.tape
  output : v.output = u.output
  size : v.heap.size = u.heap.size
  block : ∀ k, k ≠ g → v.heap[k]? = u.heap[k]?
theorem Only.refl (g : Nat) (w : World) : Only g w w := ⟨rfl, rfl, rfl, rfl, fun _ _ => rfl⟩
theorem Only.set {g : Nat} {u v : World} (h : Only g u v) (o : Nat) (x : Value) : Only g u (v.setCell ⟨g, o, none⟩ x) := by
  have hb := (Below.refl 0 v).setCell (p := ⟨g, o, none⟩) (Nat.zero_le _) x
  exact ⟨hb.os.trans h.os, hb.tape.trans h.tape, hb.output.trans h.output, by simp [h.size], fun k hk => (Below.heap_setCell v ⟨g, o, none⟩ x k hk).trans (h.block k hk)⟩
theorem Only.row {g g' o : Nat} {u v : World} {l : List Tx.Ins} (h : Only g u v) (hne : g' ≠ g) (hr : Row u g' o l) : Row v g' o l := by
  intro j x hj
  obtain ⟨a, b, c⟩ := hr j x hj
  exact ⟨(World.cell?_of_block (w := u) (h.block g' hne)).trans a, (World.cell?_of_block (w := u) (h.block g' hne)).trans b, (World.cell?_of_block (w := u) (h.block g' hne)).trans c⟩
theorem Only.below {g B : Nat} {u v : World} (h : Only g u v) (hg : B ≤ g) : Below B u v :=
  ⟨h.os, h.tape, h.output, by rw [h.size]; exact Nat.le_refl _, fun k hk => h.block k (by omega)⟩

end St
end Go.Proofs.Ytffkkhaiedhaiaa

/- Rows of numbers: what the laws' own functions do with them. -/
namespace Go.Proofs.Ytffkkhaiedhaiaa
namespace St
open Go.ChangeShapes Go.WideShapes Go.ChangeAt Go.RowKit

/-- The numbers l lie in block g from place o on. -/
def IRow (w : World) (g o : Nat) (l : List Int) : Prop := ∀ j x, l[j]? = some x → w.cell? ⟨g, o + j, none⟩ = some (.int .i64 x)
theorem IRow.on {u v : World} {g o : Nat} {l : List Int} (h : IRow u g o l) (hb : Below u.heap.size u v) : IRow v g o l := fun j x hj => (hb.cell (cell_lt (h j x hj))).trans (h j x hj)
theorem IRow.below {B : Nat} {u v : World} {g o : Nat} {l : List Int} (h : IRow u g o l) (hb : Below B u v) (hg : g < B) : IRow v g o l := fun j x hj => (hb.cell hg).trans (h j x hj)
theorem Only.room {g g' n : Nat} {u v : World} (h : Only g u v) (hne : g' ≠ g) (hr : Room u g' n) : Room v g' n := by
  intro i hi
  obtain ⟨⟨x, hx⟩, hf⟩ := hr i hi
  exact ⟨⟨x, (World.cell?_of_block (w := u) (h.block g' hne)).trans hx⟩, (World.frozen?_of_block (w := u) (h.block g' hne)).trans hf⟩
theorem IRow.nil (w : World) (g o : Nat) : IRow w g o [] := fun j x h => by simp at h
/-- One more number written behind those that lie there. -/
theorem irow_next {w : World} {g k : Nat} {l : List Int} (hk : k < l.length) (hroom : Room w g l.length) (hr : IRow w g 0 (l.take k)) : IRow (w.setCell ⟨g, k, none⟩ (.int .i64 l[k])) g 0 (l.take (k + 1)) := by
  intro j x hj
  rw [List.getElem?_take] at hj
  split at hj
  · rename_i hjk
    rw [Nat.zero_add]
    by_cases e : j = k
    · subst e
      rw [List.getElem?_eq_getElem hk] at hj
      injection hj with hj
      subst hj
      obtain ⟨⟨y, hy⟩, _⟩ := hroom j hk
      exact World.cell?_setCell_same _ _ _ hy
    · have hjt : (l.take k)[j]? = some x := by rw [List.getElem?_take, if_pos (by omega)]; exact hj
      have := hr j x hjt
      rw [Nat.zero_add] at this
      exact (World.cell?_setCell_other _ _ _ _ (fun e' => e (congrArg Addr.off e').symm)).trans this
  · simp at hj
/-- One number of a row written anew. -/
theorem irow_set {w : World} {g k : Nat} {l : List Int} (x : Int) (hr : IRow w g 0 l) : IRow (w.setCell ⟨g, k, none⟩ (.int .i64 x)) g 0 (l.set k x) := by
  intro j y hj
  rw [Nat.zero_add]
  rw [List.getElem?_set] at hj
  by_cases e : k = j
  · subst e
    by_cases hk : k < l.length
    · rw [if_pos rfl, if_pos hk] at hj
      injection hj with hj
      subst hj
      have := hr k _ (List.getElem?_eq_getElem hk)
      rw [Nat.zero_add] at this
      exact World.cell?_setCell_same _ _ _ this
    · rw [if_pos rfl, if_neg hk] at hj
      simp at hj
  · rw [if_neg e] at hj
    have := hr j y hj
    rw [Nat.zero_add] at this
    exact (World.cell?_setCell_other _ _ _ _ (fun e' => e (congrArg Addr.off e'))).trans this

theorem made_lt {w : World} {B e n g cap q : Nat} {xs : List Value} (h : w.ownsRow B e q (.slice (some ⟨g, 0, none⟩) n cap) n xs) : g < w.heap.size := by
  obtain ⟨_, h | ⟨g', cap', cur, hv, _, hblk, _⟩⟩ := h
  · simp at h
  · injection hv with h1 h2 h3
    simp at h1
    subst h1
    rcases Nat.lt_or_ge g w.heap.size with h | h
    · exact h
    · rw [Array.getElem?_eq_none h] at hblk
      simp at hblk

theorem irow_made {w : World} {B e n g cap : Nat} (h : w.ownsRow B e 1 (.slice (some ⟨g, 0, none⟩) n cap) n (madeCells (Value.int .i64 0).cells (n * 1)).toList) : IRow w g 0 (List.replicate n 0) := by
  intro j x hj
  rw [List.getElem?_replicate] at hj
  split at hj
  · rename_i hjn
    injection hj with hj
    subst hj
    have := World.ownsRow.cells h (g := g) rfl j (.int .i64 0) (by
      rw [Nat.mul_one]
      show (madeCells #[.int .i64 0] n).toList[j]? = _
      rw [toList_madeCells_one, List.getElem?_replicate, if_pos hjn])
    simp only [Go.WideShapes.add_plain, Nat.zero_add] at this
    simpa using this
  · simp at hj

theorem infoN : (Try.prog.info? 2).map (fun i => (i.zero, i.size, i.bytes)) = some (some (.int .i64 0), 1, 8) := by kernel_rfl

set_option maxHeartbeats 1000000 in
theorem likeSame (g g' cap cap' : Nat) (l : List Int) (hl : l.length ≤ 1048576) (w : World) (h1 : IRow w g 0 l) (h2 : IRow w g' 0 l) :
    Calls Try.prog 14 #[.slice (some ⟨g, 0, none⟩) l.length cap, .slice (some ⟨g', 0, none⟩) l.length cap'] w fun e w' => e = .returned (.bool true) ∧ Below w.heap.size w w' := by
  have H1 : Hid (IRow w g 0 l) := h1
  have H2 : Hid (IRow w g' 0 l) := h2
  clear h1 h2
  go_enter Try.func14, Try.ntmps14
  go_wp2
  go_loopw [5] (fun i wr => ∃ k : Nat, k ≤ l.length ∧ i = .int .i64 k ∧ Below w.heap.size w wr) (fun i _ => l.length - (intOf i).toNat)
  case atStart => exact ⟨0, Nat.zero_le _, rfl, Below.refl _ _⟩
  case round =>
    obtain ⟨k, hk, rfl, hb⟩ := hrel
    by_cases hlt : k < l.length
    · have a0 := H1.out.on hb k _ (List.getElem?_eq_getElem hlt)
      have b0 := H2.out.on hb k _ (List.getElem?_eq_getElem hlt)
      generalize l[k] = x at *
      simp only [Nat.zero_add] at a0 b0
      have hki : (k : Int) < (l.length : Int) := by omega
      have hki0 : (0 : Int) ≤ (k : Int) := by omega
      have r0 := cell_regrown a0
      have s0 := cell_regrown b0
      go_wp2_with fail
      refine wp_region_quiet_below (by kernel_rfl) (by kernel_rfl) ?_
      repeat (quiet_step (fail))
      refine wpQuiet_nil ?_
      intro _ hw'
      obtain ⟨⟨dq, osq⟩, hw''⟩ := hw'
      subst hw''
      have hw1 : Below w.heap.size w (Sort.grow (redrawn wr dq) osq) := below_over hb (below_regrown wr dq osq)
      clear a0 b0 r0 s0 hb
      generalize Sort.grow (redrawn wr dq) osq = w1 at *
      go_wp2
      go_roundw
      case rel => exact ⟨k + 1, by omega, by go_num, hw1⟩
      case measure => simp [intOf]; omega
    · go_wp2
      go_ret
      exact ⟨rfl, hb⟩
end St
end Go.Proofs.Ytffkkhaiedhaiaa

/- Plain facts on layouts: places, jumps that are too far, and that the least right layout is one alone. No program in it. -/
namespace Go.Proofs.Ytffkkhaiedhaiaa
namespace Lay

def jumpB (op : Int) : Bool := decide (op = 11) || decide (op = 12)
def codeOk (l : List Tx.Ins) : Bool := decide (0 < l.length) && Tx.okC l && l.all (fun x => !(jumpB x.1) || decide (x.2.1 < (l.length : Int)))
/-- The bytes of a step, without what a wide jump has more. -/
def bytesF (op a : Int) : Int :=
  if op = 1 then (if -128 ≤ a ∧ a ≤ 127 then 2 else 5)
  else if op = 2 ∨ op = 3 ∨ op = 11 ∨ op = 12 ∨ op = 14 ∨ op = 15 ∨ op = 16 then 2 else if op = 17 then 3 else 1
theorem ok_len {l : List Tx.Ins} (h : codeOk l = true) : 0 < l.length ∧ l.length ≤ 40 := by
  unfold codeOk Tx.okC at h
  simp only [Bool.and_eq_true, decide_eq_true_eq] at h
  exact ⟨h.1.1, h.1.2.1⟩
theorem ok_each {l : List Tx.Ins} (h : codeOk l = true) : Tx.okC l = true := by
  unfold codeOk at h
  simp only [Bool.and_eq_true, decide_eq_true_eq] at h
  exact h.1.2
theorem ok_at {l : List Tx.Ins} (h : codeOk l = true) {k : Nat} {x : Tx.Ins} (hx : l[k]? = some x) : Tx.okI x.1 x.2.1 x.2.2 = true := by
  have h1 := ok_each h
  unfold Tx.okC at h1
  simp only [Bool.and_eq_true, decide_eq_true_eq] at h1
  exact List.all_eq_true.1 h1.2 x (List.mem_of_getElem? hx)
theorem ok_jump {l : List Tx.Ins} (h : codeOk l = true) {k : Nat} {x : Tx.Ins} (hx : l[k]? = some x) (hj : jumpB x.1 = true) : 0 ≤ x.2.1 ∧ x.2.1 < (l.length : Int) := by
  have h0 := ok_at h hx
  unfold codeOk at h
  simp only [Bool.and_eq_true] at h
  have h1 := List.all_eq_true.1 h.2 x (List.mem_of_getElem? hx)
  simp [hj] at h1
  refine ⟨?_, h1⟩
  unfold jumpB at hj
  unfold Tx.okI at h0
  have e : ¬ x.1 = 1 := by
    intro e; rw [e] at hj; simp at hj
  rw [if_neg e] at h0
  simp only [Bool.and_eq_true, decide_eq_true_eq] at h0
  exact h0.1.1.1

/-- How wide step k is laid: what is not told is short. -/
def wd (v : List Int) (k : Nat) : Int := (v[k]?).getD 0
def ins (l : List Tx.Ins) (k : Nat) : Tx.Ins := (l[k]?).getD (0, 0, 0)
def sz (l : List Tx.Ins) (v : List Int) (k : Nat) : Int := bytesF (ins l k).1 (ins l k).2.1 + wd v k
/-- Where step k begins. -/
def pl (l : List Tx.Ins) (v : List Int) : Nat → Int
  | 0 => 0
  | k + 1 => pl l v k + sz l v k
def places (l : List Tx.Ins) (v : List Int) : List Int := (List.range (l.length + 1)).map (pl l v)
def dist (l : List Tx.Ins) (v : List Int) (k : Nat) : Int := pl l v (ins l k).2.1.toNat - pl l v k
def offB (d : Int) : Bool := decide (d < -16) || decide (15 < d)
/-- A short jump that goes too far. -/
def far (l : List Tx.Ins) (v : List Int) (k : Nat) : Bool := jumpB (ins l k).1 && decide (wd v k = 0) && offB (dist l v k)
def Le (v u : List Int) : Prop := ∀ k, wd v k ≤ wd u k

theorem Le.trans {a b c : List Int} (h : Le a b) (k : Le b c) : Le a c := fun j => Int.le_trans (h j) (k j)
theorem Le.refl (a : List Int) : Le a a := fun _ => Int.le_refl _
/-- The layout of the code: the first that is too far made wide, so many times. -/
def run (l : List Tx.Ins) : Nat → List Int → List Int
  | 0, v => v
  | n + 1, v => match (List.range l.length).find? (far l v) with
    | some k => run l n (v.set k 1)
    | none => v
end Lay
end Go.Proofs.Ytffkkhaiedhaiaa
