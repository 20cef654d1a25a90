/- Contracts of the laws' marking of a row of steps. -/
import Derived.Test.YtbfiijfaaknhaaaRow1
namespace Go.Proofs.Ytbfiijfaaknhaaa
namespace St
open Go.ChangeShapes Go.WideShapes Go.ChangeAt Go.RowKit

/-- The marks 1, 2, 3 .. -/
def marks (n : Nat) : List Tx.Ins := (List.range n).map fun (j : Nat) => (((j : Int) * 3 + 1, (j : Int) * 3 + 2, (j : Int) * 3 + 3) : Tx.Ins)
theorem marks_len (n : Nat) : (marks n).length = n := by simp [marks]
theorem marks_at {n k : Nat} (h : k < n) : (marks n)[k]? = some ((k : Int) * 3 + 1, (k : Int) * 3 + 2, (k : Int) * 3 + 3) := by simp [marks, h]

/-- Only block g has turned. -/
structure Only (g : Nat) (u v : World) : Prop where
  os : v.os = u.os
  tape : v.tape = u.tape
  output : v.output = u.output
  size : v.heap.size = u.heap.size
  block : ∀ k, k ≠ g → v.heap[k]? = u.heap[k]?
theorem Only.refl (g : Nat) (w : World) : Only g w w := ⟨rfl, rfl, rfl, rfl, fun _ _ => rfl⟩
theorem Only.set {g : Nat} {u v : World} (h : Only g u v) (o : Nat) (x : Value) : Only g u (v.setCell ⟨g, o, none⟩ x) := by
  have hb := (Below.refl 0 v).setCell (p := ⟨g, o, none⟩) (Nat.zero_le _) x
  exact ⟨hb.os.trans h.os, hb.tape.trans h.tape, hb.output.trans h.output, by simp [h.size], fun k hk => (Below.heap_setCell v ⟨g, o, none⟩ x k hk).trans (h.block k hk)⟩
theorem Only.row {g g' o : Nat} {u v : World} {l : List Tx.Ins} (h : Only g u v) (hne : g' ≠ g) (hr : Row u g' o l) : Row v g' o l := by
  intro j x hj
  obtain ⟨a, b, c⟩ := hr j x hj
  exact ⟨(World.cell?_of_block (w := u) (h.block g' hne)).trans a, (World.cell?_of_block (w := u) (h.block g' hne)).trans b, (World.cell?_of_block (w := u) (h.block g' hne)).trans c⟩
theorem Only.below {g B : Nat} {u v : World} (h : Only g u v) (hg : B ≤ g) : Below B u v :=
  ⟨h.os, h.tape, h.output, by rw [h.size]; exact Nat.le_refl _, fun k hk => h.block k (by omega)⟩

set_option maxRecDepth 100000 in
set_option maxHeartbeats 1000000 in
theorem mark_at (g cap n : Nat) (hn : n ≤ 1048576) (w : World) (hr : Room w g (n * 3)) :
    Calls Try.prog 37 #[.slice (some ⟨g, 0, none⟩) n cap, .int .i64 1] w fun e w' => e = .returned (.int .i64 ((n : Int) * 3 + 1)) ∧ Row w' g 0 (marks n) ∧ Room w' g (n * 3) ∧ Only g w w' := by
  have HR : Hid (Room w g (n * 3)) := hr
  clear hr
  go_enter Try.func37, Try.ntmps37
  go_wp2
  go_loopw [1, 5] (fun m i wr => ∃ k : Nat, k ≤ n ∧ i = .int .i64 k ∧ m = .int .i64 ((k : Int) * 3 + 1) ∧ Hid (Room wr g (n * 3)) ∧ Hid (Row wr g 0 ((marks n).take k)) ∧ Hid (Only g w wr)) (fun _ i _ => n - (intOf i).toNat)
  case atStart => exact ⟨0, Nat.zero_le _, rfl, rfl, HR.out, fun j x h => by simp at h, Only.refl _ _⟩
  case round =>
    obtain ⟨k, hk, rfl, rfl, hrm, hrw, hon⟩ := hrel
    by_cases hlt : k < n
    · have hki : (k : Int) < (n : Int) := by omega
      obtain ⟨⟨x0, d0⟩, f0⟩ := hrm.out (k * 3) (by omega)
      obtain ⟨⟨x1, d1⟩, f1⟩ := hrm.out (k * 3 + 1) (by omega)
      obtain ⟨⟨x2, d2⟩, f2⟩ := hrm.out (k * 3 + 2) (by omega)
      have hml : k < (marks n).length := by rw [marks_len]; exact hlt
      have HN := row_next hml (by rw [marks_len]; exact hrm.out) hrw.out
      have hmk : (marks n)[k] = ((k : Int) * 3 + 1, (k : Int) * 3 + 2, (k : Int) * 3 + 3) := by
        have := marks_at hlt
        rw [List.getElem?_eq_getElem hml] at this
        simpa using this
      rw [hmk] at HN
      have e2 : (k : Int) * 3 + 2 = (k : Int) * 3 + 1 + 1 := by omega
      have e3 : (k : Int) * 3 + 3 = (k : Int) * 3 + 1 + 1 + 1 := by omega
      simp only [e2, e3] at HN
      have HNX : Hid (Row (((wr.setCell ⟨g, k * 3, none⟩ (.int .i64 ((k : Int) * 3 + 1))).setCell ⟨g, k * 3 + 1, none⟩ (.int .i64 ((k : Int) * 3 + 1 + 1))).setCell ⟨g, k * 3 + 2, none⟩ (.int .i64 ((k : Int) * 3 + 1 + 1 + 1))) g 0 ((marks n).take (k + 1))) := HN
      clear HN hmk hml e2 e3
      go_wp2
      go_roundw
      case rel => exact ⟨k + 1, by omega, by go_num, by go_num, ((hrm.out.set _ _).set _ _).set _ _, HNX.out, ((hon.out.set _ _).set _ _).set _ _⟩
      case measure => simp [intOf]; omega
    · have e : (marks n).take k = marks n := List.take_of_length_le (by rw [marks_len]; omega)
      have hkn : k = n := by omega
      have HE := hrw.out
      rw [e] at HE
      have HEE : Hid (Row wr g 0 (marks n)) := HE
      have HKN : Hid (k = n) := hkn
      clear HE e hkn
      go_wp2
      go_ret
      exact ⟨by rw [← HKN.out]; rfl, HEE.out, hrm.out, hon.out⟩

set_option maxRecDepth 100000 in
set_option maxHeartbeats 1000000 in
theorem held_at (g cap n : Nat) (hn : n ≤ 1048576) (w : World) (hr : Row w g 0 (marks n)) :
    Calls Try.prog 38 #[.slice (some ⟨g, 0, none⟩) n cap, .int .i64 1] w fun e w' => e = .returned (.int .i64 ((n : Int) * 3 + 1)) ∧ w = w' := by
  have HR : Hid (Row w g 0 (marks n)) := hr
  clear hr
  go_enter Try.func38, Try.ntmps38
  go_wp2
  go_loop [1, 5] (fun m i => ∃ k : Nat, k ≤ n ∧ i = .int .i64 k ∧ m = .int .i64 ((k : Int) * 3 + 1)) (fun _ i => n - (intOf i).toNat)
  case atStart => exact ⟨0, Nat.zero_le _, rfl, rfl⟩
  case round =>
    obtain ⟨k, hk, rfl, rfl⟩ := hrel
    by_cases hlt : k < n
    · have hki : (k : Int) < (n : Int) := by omega
      obtain ⟨h0, h1, h2⟩ := HR.out k _ (marks_at hlt)
      simp only [Nat.zero_add] at h0 h1 h2
      go_wp2
      go_round
      case rel => exact ⟨k + 1, by omega, by go_num, by go_num⟩
      case measure => simp [intOf]; omega
    · have HKN : Hid (k = n) := by show k = n; omega
      go_wp2
      go_ret
      exact ⟨by rw [← HKN.out]; rfl, rfl⟩
end St
end Go.Proofs.Ytbfiijfaaknhaaa
