/- Rows of numbers: what the laws' own functions do with them. -/
import Derived.Test.YtinanjjhkddikaaGreatJRow2
import Derived.Laws.OwnMore
import Derived.Test.YtinanjjhkddikaaGreatJStep0
namespace Go.Proofs.YtinanjjhkddikaaGreat
namespace St
open Go.ChangeShapes Go.WideShapes Go.ChangeAt Go.RowKit

/-- The numbers l lie in block g from place o on. -/
def IRow (w : World) (g o : Nat) (l : List Int) : Prop := ∀ j x, l[j]? = some x → w.cell? ⟨g, o + j, none⟩ = some (.int .i64 x)
theorem IRow.on {u v : World} {g o : Nat} {l : List Int} (h : IRow u g o l) (hb : Below u.heap.size u v) : IRow v g o l := fun j x hj => (hb.cell (cell_lt (h j x hj))).trans (h j x hj)
theorem IRow.below {B : Nat} {u v : World} {g o : Nat} {l : List Int} (h : IRow u g o l) (hb : Below B u v) (hg : g < B) : IRow v g o l := fun j x hj => (hb.cell hg).trans (h j x hj)
theorem Only.irow {g g' o : Nat} {u v : World} {l : List Int} (h : Only g u v) (hne : g' ≠ g) (hr : IRow u g' o l) : IRow v g' o l := fun j x hj => (World.cell?_of_block (w := u) (h.block g' hne)).trans (hr j x hj)
theorem Only.room {g g' n : Nat} {u v : World} (h : Only g u v) (hne : g' ≠ g) (hr : Room u g' n) : Room v g' n := by
  intro i hi
  obtain ⟨⟨x, hx⟩, hf⟩ := hr i hi
  exact ⟨⟨x, (World.cell?_of_block (w := u) (h.block g' hne)).trans hx⟩, (World.frozen?_of_block (w := u) (h.block g' hne)).trans hf⟩
theorem IRow.nil (w : World) (g o : Nat) : IRow w g o [] := fun j x h => by simp at h
/-- One more number written behind those that lie there. -/
theorem irow_next {w : World} {g k : Nat} {l : List Int} (hk : k < l.length) (hroom : Room w g l.length) (hr : IRow w g 0 (l.take k)) : IRow (w.setCell ⟨g, k, none⟩ (.int .i64 l[k])) g 0 (l.take (k + 1)) := by
  intro j x hj
  rw [List.getElem?_take] at hj
  split at hj
  · rename_i hjk
    rw [Nat.zero_add]
    by_cases e : j = k
    · subst e
      rw [List.getElem?_eq_getElem hk] at hj
      injection hj with hj
      subst hj
      obtain ⟨⟨y, hy⟩, _⟩ := hroom j hk
      exact World.cell?_setCell_same _ _ _ hy
    · have hjt : (l.take k)[j]? = some x := by rw [List.getElem?_take, if_pos (by omega)]; exact hj
      have := hr j x hjt
      rw [Nat.zero_add] at this
      exact (World.cell?_setCell_other _ _ _ _ (fun e' => e (congrArg Addr.off e').symm)).trans this
  · simp at hj
/-- One number of a row written anew. -/
theorem irow_set {w : World} {g k : Nat} {l : List Int} (x : Int) (hr : IRow w g 0 l) : IRow (w.setCell ⟨g, k, none⟩ (.int .i64 x)) g 0 (l.set k x) := by
  intro j y hj
  rw [Nat.zero_add]
  rw [List.getElem?_set] at hj
  by_cases e : k = j
  · subst e
    by_cases hk : k < l.length
    · rw [if_pos rfl, if_pos hk] at hj
      injection hj with hj
      subst hj
      have := hr k _ (List.getElem?_eq_getElem hk)
      rw [Nat.zero_add] at this
      exact World.cell?_setCell_same _ _ _ this
    · rw [if_pos rfl, if_neg hk] at hj
      simp at hj
  · rw [if_neg e] at hj
    have := hr j y hj
    rw [Nat.zero_add] at this
    exact (World.cell?_setCell_other _ _ _ _ (fun e' => e (congrArg Addr.off e'))).trans this

theorem made_lt {w : World} {B e n g cap q : Nat} {xs : List Value} (h : w.ownsRow B e q (.slice (some ⟨g, 0, none⟩) n cap) n xs) : g < w.heap.size := by
  obtain ⟨_, h | ⟨g', cap', cur, hv, _, hblk, _⟩⟩ := h
  · simp at h
  · injection hv with h1 h2 h3
    simp at h1
    subst h1
    rcases Nat.lt_or_ge g w.heap.size with h | h
    · exact h
    · rw [Array.getElem?_eq_none h] at hblk
      simp at hblk

theorem irow_made {w : World} {B e n g cap : Nat} (h : w.ownsRow B e 1 (.slice (some ⟨g, 0, none⟩) n cap) n (madeCells (Value.int .i64 0).cells (n * 1)).toList) : IRow w g 0 (List.replicate n 0) := by
  intro j x hj
  rw [List.getElem?_replicate] at hj
  split at hj
  · rename_i hjn
    injection hj with hj
    subst hj
    have := World.ownsRow.cells h (g := g) rfl j (.int .i64 0) (by
      rw [Nat.mul_one]
      show (madeCells #[.int .i64 0] n).toList[j]? = _
      rw [toList_madeCells_one, List.getElem?_replicate, if_pos hjn])
    simp only [Go.WideShapes.add_plain, Nat.zero_add] at this
    simpa using this
  · simp at hj

theorem infoN : (Tryz.prog.info? 2).map (fun i => (i.zero, i.size, i.bytes)) = some (some (.int .i64 0), 1, 8) := by kernel_rfl

set_option maxRecDepth 100000 in
set_option maxHeartbeats 1000000 in
theorem toInts (a : Option Addr) (cap : Nat) (l : List Int) (hl : l.length ≤ 1048576) (w : World) (hr : 0 < l.length → ∃ b o, a = some ⟨b, o, none⟩ ∧ IRow w b o l) :
    Calls Tryz.prog 21 #[.slice a l.length cap] w fun e w' => e = .returned (.slice (some ⟨w.heap.size, 0, none⟩) l.length l.length) ∧ IRow w' w.heap.size 0 l ∧ Room w' w.heap.size l.length ∧ w.heap.size < w'.heap.size ∧ Below w.heap.size w w' := by
  obtain ⟨i0, hi, hz0, hz1, hz2⟩ := info_parts infoN
  have HR : Hid (0 < l.length → ∃ b o, a = some ⟨b, o, none⟩ ∧ IRow w b o l) := hr
  clear hr
  go_enter Tryz.func21, Tryz.ntmps21
  go_wp2_with (at_make; refine wpList_make_full _ rfl _ _ 26 rfl w.heap.size 2 i0 (.int .i64 0) 1 Tryz.underlying26 hi hz0 hz1 .i64 .i64 _ _ l.length rfl rfl rfl rfl (by rw [hz2]; omega) (by unfold maxLen; omega) (Nat.le_refl _) ?_; intro w0 hown0 hgrow0)
  have hroom := room_own hown0 (Nat.le_refl _)
  rw [Nat.mul_one] at hroom
  have hsz0 : w.heap.size < w0.heap.size := made_lt hown0
  have hb0 : Below w.heap.size w w0 := (Below.refl _ _).grown hgrow0 (Nat.le_refl _) (fun _ h => by simp at h)
  clear hown0 hgrow0
  go_loopw [4] (fun i wr => ∃ k : Nat, k ≤ l.length ∧ i = .int .i64 k ∧ Hid (Room wr w.heap.size l.length) ∧ Hid (IRow wr w.heap.size 0 (l.take k)) ∧ w.heap.size < wr.heap.size ∧ Below w.heap.size w wr) (fun i _ => l.length - (intOf i).toNat)
  case atStart => exact ⟨0, Nat.zero_le _, rfl, hroom, fun j x h => by simp at h, hsz0, hb0⟩
  case round =>
    obtain ⟨k, hk, rfl, hrm, hrw, hsz, hb⟩ := hrel
    by_cases hlt : k < l.length
    · obtain ⟨b, o, rfl, hrow⟩ := HR.out (by omega)
      have h0 := hrow.on hb k _ (List.getElem?_eq_getElem hlt)
      obtain ⟨⟨x0, d0⟩, f0⟩ := hrm.out k hlt
      have HN : Hid (IRow (wr.setCell ⟨w.heap.size, k, none⟩ (.int .i64 l[k])) w.heap.size 0 (l.take (k + 1))) := irow_next hlt hrm.out hrw.out
      generalize l[k] = x at *
      clear hrow
      go_wp2
      go_roundw
      case rel => exact ⟨k + 1, by omega, by go_num, hrm.out.set _ _, HN.out, by simpa using hsz, hb.setCell (Nat.le_refl _) _⟩
      case measure => simp [intOf]; omega
    · have e : l.take k = l := List.take_of_length_le (by omega)
      have HE := hrw.out
      rw [e] at HE
      have HEE : Hid (IRow wr w.heap.size 0 l) := HE
      clear HE e
      go_wp2
      go_ret
      exact ⟨rfl, HEE.out, hrm.out, hsz, hb⟩
set_option maxHeartbeats 1000000 in
theorem eqInts (g g' cap cap' : Nat) (l : List Int) (hl : l.length ≤ 1048576) (w : World) (h1 : IRow w g 0 l) (h2 : IRow w g' 0 l) :
    Calls Tryz.prog 11 #[.slice (some ⟨g, 0, none⟩) l.length cap, .slice (some ⟨g', 0, none⟩) l.length cap'] w fun e w' => e = .returned (.bool true) ∧ Below w.heap.size w w' := by
  have H1 : Hid (IRow w g 0 l) := h1
  have H2 : Hid (IRow w g' 0 l) := h2
  clear h1 h2
  go_enter Tryz.func11, Tryz.ntmps11
  go_wp2
  go_loopw [5] (fun i wr => ∃ k : Nat, k ≤ l.length ∧ i = .int .i64 k ∧ Below w.heap.size w wr) (fun i _ => l.length - (intOf i).toNat)
  case atStart => exact ⟨0, Nat.zero_le _, rfl, Below.refl _ _⟩
  case round =>
    obtain ⟨k, hk, rfl, hb⟩ := hrel
    by_cases hlt : k < l.length
    · have a0 := H1.out.on hb k _ (List.getElem?_eq_getElem hlt)
      have b0 := H2.out.on hb k _ (List.getElem?_eq_getElem hlt)
      generalize l[k] = x at *
      simp only [Nat.zero_add] at a0 b0
      have hki : (k : Int) < (l.length : Int) := by omega
      have hki0 : (0 : Int) ≤ (k : Int) := by omega
      have r0 := cell_regrown a0
      have s0 := cell_regrown b0
      go_wp2_with fail
      refine wp_region_quiet_below (by kernel_rfl) (by kernel_rfl) ?_
      repeat (quiet_step (fail))
      refine wpQuiet_nil ?_
      intro _ hw'
      obtain ⟨⟨dq, osq⟩, hw''⟩ := hw'
      subst hw''
      have hw1 : Below w.heap.size w (Sort.grow (redrawn wr dq) osq) := below_over hb (below_regrown wr dq osq)
      clear a0 b0 r0 s0 hb
      generalize Sort.grow (redrawn wr dq) osq = w1 at *
      go_wp2
      go_roundw
      case rel => exact ⟨k + 1, by omega, by go_num, hw1⟩
      case measure => simp [intOf]; omega
    · go_wp2
      go_ret
      exact ⟨rfl, hb⟩
/-- The marks k, k + 1, .. -/
def imarks (m n : Nat) : List Int := (List.range n).map fun (j : Nat) => (m : Int) + (j : Int)
theorem imarks_len (m n : Nat) : (imarks m n).length = n := by simp [imarks]
theorem imarks_at {m n k : Nat} (h : k < n) : (imarks m n)[k]? = some ((m : Int) + (k : Int)) := by simp [imarks, h]
set_option maxRecDepth 100000 in
set_option maxHeartbeats 1000000 in
theorem imark_at (g cap m n : Nat) (hm : m ≤ 4000000) (hn : n ≤ 1048576) (w : World) (hr : Room w g n) :
    Calls Tryz.prog 14 #[.slice (some ⟨g, 0, none⟩) n cap, .int .i64 m] w fun e w' => e = .returned (.int .i64 ((m : Int) + (n : Int))) ∧ IRow w' g 0 (imarks m n) ∧ Room w' g n ∧ Only g w w' := by
  have HR : Hid (Room w g n) := hr
  clear hr
  go_enter Tryz.func14, Tryz.ntmps14
  go_wp2
  go_loopw [1, 5] (fun q i wr => ∃ k : Nat, k ≤ n ∧ i = .int .i64 k ∧ q = .int .i64 ((m : Int) + (k : Int)) ∧ Hid (Room wr g n) ∧ Hid (IRow wr g 0 ((imarks m n).take k)) ∧ Hid (Only g w wr)) (fun _ i _ => n - (intOf i).toNat)
  case atStart => exact ⟨0, Nat.zero_le _, rfl, by simp, HR.out, fun j x h => by simp at h, Only.refl _ _⟩
  case round =>
    obtain ⟨k, hk, rfl, rfl, hrm, hrw, hon⟩ := hrel
    by_cases hlt : k < n
    · have hki : (k : Int) < (n : Int) := by omega
      obtain ⟨⟨x0, d0⟩, f0⟩ := hrm.out k hlt
      have hml : k < (imarks m n).length := by rw [imarks_len]; exact hlt
      have HN := irow_next hml (by rw [imarks_len]; exact hrm.out) hrw.out
      have hmk : (imarks m n)[k] = (m : Int) + (k : Int) := by
        have := imarks_at (m := m) hlt
        rw [List.getElem?_eq_getElem hml] at this
        simpa using this
      rw [hmk] at HN
      have HNX : Hid (IRow (wr.setCell ⟨g, k, none⟩ (.int .i64 ((m : Int) + (k : Int)))) g 0 ((imarks m n).take (k + 1))) := HN
      clear HN hmk hml
      go_wp2
      go_roundw
      case rel => exact ⟨k + 1, by omega, by go_num, by go_num, hrm.out.set _ _, HNX.out, hon.out.set _ _⟩
      case measure => simp [intOf]; omega
    · have e : (imarks m n).take k = imarks m n := List.take_of_length_le (by rw [imarks_len]; omega)
      have hkn : k = n := by omega
      have HE := hrw.out
      rw [e] at HE
      have HEE : Hid (IRow wr g 0 (imarks m n)) := HE
      have HKN : Hid (k = n) := hkn
      clear HE e hkn
      go_wp2
      go_ret
      exact ⟨by rw [← HKN.out]; rfl, HEE.out, hrm.out, hon.out⟩
set_option maxRecDepth 100000 in
set_option maxHeartbeats 1000000 in
theorem iheld_at (g cap m n : Nat) (hm : m ≤ 4000000) (hn : n ≤ 1048576) (w : World) (hr : IRow w g 0 (imarks m n)) :
    Calls Tryz.prog 15 #[.slice (some ⟨g, 0, none⟩) n cap, .int .i64 m] w fun e w' => e = .returned (.int .i64 ((m : Int) + (n : Int))) ∧ w = w' := by
  have HR : Hid (IRow w g 0 (imarks m n)) := hr
  clear hr
  go_enter Tryz.func15, Tryz.ntmps15
  go_wp2
  go_loop [1, 5] (fun q i => ∃ k : Nat, k ≤ n ∧ i = .int .i64 k ∧ q = .int .i64 ((m : Int) + (k : Int))) (fun _ i => n - (intOf i).toNat)
  case atStart => exact ⟨0, Nat.zero_le _, rfl, by simp⟩
  case round =>
    obtain ⟨k, hk, rfl, rfl⟩ := hrel
    by_cases hlt : k < n
    · have hki : (k : Int) < (n : Int) := by omega
      have h0 := HR.out k _ (imarks_at hlt)
      simp only [Nat.zero_add] at h0
      go_wp2
      go_round
      case rel => exact ⟨k + 1, by omega, by go_num, by go_num⟩
      case measure => simp [intOf]; omega
    · have HKN : Hid (k = n) := by show k = n; omega
      go_wp2
      go_ret
      exact ⟨by rw [← HKN.out]; rfl, rfl⟩
end St
end Go.Proofs.YtinanjjhkddikaaGreat

/- Plain facts on layouts: places, jumps that are too far, and that the least right layout is one alone. No program in it. -/
namespace Go.Proofs.YtinanjjhkddikaaGreat
namespace Lay

def jumpB (op : Int) : Bool := decide (op = 11) || decide (op = 12)
def codeOk (l : List Tx.Ins) : Bool := decide (0 < l.length) && Tx.okC l && l.all (fun x => !(jumpB x.1) || decide (x.2.1 < (l.length : Int)))
/-- The bytes of a step, without what a wide jump has more. -/
def bytesF (op a : Int) : Int :=
  if op = 1 then (if -128 ≤ a ∧ a ≤ 127 then 2 else 5)
  else if op = 2 ∨ op = 3 ∨ op = 11 ∨ op = 12 ∨ op = 14 ∨ op = 15 ∨ op = 16 then 2 else if op = 17 then 3 else 1
theorem bytes_bd (op a : Int) : 1 ≤ bytesF op a ∧ bytesF op a ≤ 5 := by unfold bytesF; (repeat' split) <;> omega

theorem ok_len {l : List Tx.Ins} (h : codeOk l = true) : 0 < l.length ∧ l.length ≤ 40 := by
  unfold codeOk Tx.okC at h
  simp only [Bool.and_eq_true, decide_eq_true_eq] at h
  exact ⟨h.1.1, h.1.2.1⟩
theorem ok_each {l : List Tx.Ins} (h : codeOk l = true) : Tx.okC l = true := by
  unfold codeOk at h
  simp only [Bool.and_eq_true, decide_eq_true_eq] at h
  exact h.1.2
theorem ok_at {l : List Tx.Ins} (h : codeOk l = true) {k : Nat} {x : Tx.Ins} (hx : l[k]? = some x) : Tx.okI x.1 x.2.1 x.2.2 = true := by
  have h1 := ok_each h
  unfold Tx.okC at h1
  simp only [Bool.and_eq_true, decide_eq_true_eq] at h1
  exact List.all_eq_true.1 h1.2 x (List.mem_of_getElem? hx)
theorem ok_jump {l : List Tx.Ins} (h : codeOk l = true) {k : Nat} {x : Tx.Ins} (hx : l[k]? = some x) (hj : jumpB x.1 = true) : 0 ≤ x.2.1 ∧ x.2.1 < (l.length : Int) := by
  have h0 := ok_at h hx
  unfold codeOk at h
  simp only [Bool.and_eq_true] at h
  have h1 := List.all_eq_true.1 h.2 x (List.mem_of_getElem? hx)
  simp [hj] at h1
  refine ⟨?_, h1⟩
  unfold jumpB at hj
  unfold Tx.okI at h0
  have e : ¬ x.1 = 1 := by
    intro e; rw [e] at hj; simp at hj
  rw [if_neg e] at h0
  simp only [Bool.and_eq_true, decide_eq_true_eq] at h0
  exact h0.1.1.1

/-- How wide step k is laid: what is not told is short. -/
def wd (v : List Int) (k : Nat) : Int := (v[k]?).getD 0
def ins (l : List Tx.Ins) (k : Nat) : Tx.Ins := (l[k]?).getD (0, 0, 0)
def sz (l : List Tx.Ins) (v : List Int) (k : Nat) : Int := bytesF (ins l k).1 (ins l k).2.1 + wd v k
/-- Where step k begins. -/
def pl (l : List Tx.Ins) (v : List Int) : Nat → Int
  | 0 => 0
  | k + 1 => pl l v k + sz l v k
def places (l : List Tx.Ins) (v : List Int) : List Int := (List.range (l.length + 1)).map (pl l v)
theorem places_len (l : List Tx.Ins) (v : List Int) : (places l v).length = l.length + 1 := by simp [places]
theorem places_at {l : List Tx.Ins} {v : List Int} {k : Nat} (h : k ≤ l.length) : (places l v)[k]? = some (pl l v k) := by
  have : k < l.length + 1 := by omega
  simp [places, this]

/-- A layout of the code: a 0 or 1 for each step, 1 for jumps alone. -/
def Wide (l : List Tx.Ins) (v : List Int) : Prop := v.length = l.length ∧ ∀ k, wd v k = 0 ∨ (wd v k = 1 ∧ jumpB (ins l k).1 = true)
def dist (l : List Tx.Ins) (v : List Int) (k : Nat) : Int := pl l v (ins l k).2.1.toNat - pl l v k
def offB (d : Int) : Bool := decide (d < -16) || decide (15 < d)
/-- A short jump that goes too far. -/
def far (l : List Tx.Ins) (v : List Int) (k : Nat) : Bool := jumpB (ins l k).1 && decide (wd v k = 0) && offB (dist l v k)
def Right (l : List Tx.Ins) (v : List Int) : Prop := Wide l v ∧ ∀ k, k < l.length → far l v k = false
def Le (v u : List Int) : Prop := ∀ k, wd v k ≤ wd u k

theorem pl_bd {l : List Tx.Ins} {v : List Int} (h : ∀ k, wd v k = 0 ∨ wd v k = 1) : ∀ k, 0 ≤ pl l v k ∧ pl l v k ≤ 6 * k := by
  intro k
  induction k with
  | zero => simp [pl]
  | succ k ih =>
    have := bytes_bd (ins l k).1 (ins l k).2.1
    have := h k
    simp only [pl, sz]
    omega
theorem Wide.bit {l : List Tx.Ins} {v : List Int} (h : Wide l v) (k : Nat) : wd v k = 0 ∨ wd v k = 1 := by
  rcases h.2 k with e | e
  · exact Or.inl e
  · exact Or.inr e.1
/-- From one place to a later one: at least nothing, and with more wide ones no less. -/
theorem span {l : List Tx.Ins} {v u : List Int} (hv : ∀ k, wd v k = 0 ∨ wd v k = 1) (h : Le v u) (a : Nat) : ∀ n, 0 ≤ pl l v (a + n) - pl l v a ∧ pl l v (a + n) - pl l v a ≤ pl l u (a + n) - pl l u a := by
  intro n
  induction n with
  | zero => simp
  | succ n ih =>
    have h1 := bytes_bd (ins l (a + n)).1 (ins l (a + n)).2.1
    have h2 := hv (a + n)
    have h3 := h (a + n)
    rw [← Nat.add_assoc]
    simp only [pl, sz]
    omega
theorem off_mono {l : List Tx.Ins} {v u : List Int} (hv : ∀ k, wd v k = 0 ∨ wd v k = 1) (h : Le v u) (k : Nat) (ho : offB (dist l v k) = true) : offB (dist l u k) = true := by
  unfold offB dist at *
  simp only [Bool.or_eq_true, decide_eq_true_eq] at *
  by_cases hk : k ≤ (ins l k).2.1.toNat
  · have := span (l := l) hv h k ((ins l k).2.1.toNat - k)
    rw [show k + ((ins l k).2.1.toNat - k) = (ins l k).2.1.toNat by omega] at this
    omega
  · have := span (l := l) hv h (ins l k).2.1.toNat (k - (ins l k).2.1.toNat)
    rw [show (ins l k).2.1.toNat + (k - (ins l k).2.1.toNat) = k by omega] at this
    omega
/-- What is too far in a layout is wide in each right one that has all its wide ones. -/
theorem forced {l : List Tx.Ins} {v u : List Int} (hv : ∀ k, wd v k = 0 ∨ wd v k = 1) (h : Le v u) (hu : Right l u) {k : Nat} (hk : k < l.length) (hf : far l v k = true) : wd u k = 1 := by
  rcases hu.1.2 k with e | e
  · exfalso
    have h1 := hu.2 k hk
    unfold far at h1 hf
    simp only [Bool.and_eq_true, decide_eq_true_eq] at hf
    have h2 := off_mono hv h k hf.2
    rw [hf.1.1, h2, e] at h1
    simp at h1
  · exact e.1

/-- All wide ones of the layout are wide in each right one. -/
def Below1 (l : List Tx.Ins) (v : List Int) : Prop := ∀ u, Right l u → Le v u
def Least (l : List Tx.Ins) (v : List Int) : Prop := Right l v ∧ Below1 l v

theorem wd_set (v : List Int) (k j : Nat) (x : Int) (hk : k < v.length) : wd (v.set k x) j = if j = k then x else wd v j := by
  unfold wd
  rw [List.getElem?_set]
  by_cases e : k = j
  · subst e; simp [hk]
  · simp [e, Ne.symm e]
theorem wide_set {l : List Tx.Ins} {v : List Int} (h : Wide l v) {k : Nat} (hk : k < l.length) (hj : jumpB (ins l k).1 = true) : Wide l (v.set k 1) := by
  refine ⟨by rw [List.length_set]; exact h.1, fun j => ?_⟩
  rw [wd_set _ _ _ _ (by rw [h.1]; exact hk)]
  split
  · rename_i e; subst e; exact Or.inr ⟨rfl, hj⟩
  · exact h.2 j
theorem le_set {l : List Tx.Ins} {v : List Int} (h : Wide l v) {k : Nat} (hk : k < l.length) : Le v (v.set k 1) := by
  intro j
  rw [wd_set _ _ _ _ (by rw [h.1]; exact hk)]
  split
  · rename_i e; subst e; rcases h.bit j with e | e <;> omega
  · exact Int.le_refl _
theorem Le.trans {a b c : List Int} (h : Le a b) (k : Le b c) : Le a c := fun j => Int.le_trans (h j) (k j)
theorem Le.refl (a : List Int) : Le a a := fun _ => Int.le_refl _
/-- One more wide one that an earlier layout of the run made wide. -/
theorem below_set {l : List Tx.Ins} {v0 v : List Int} (h0 : Wide l v0) (hv : Wide l v) (hle : Le v0 v) (hb : Below1 l v) {k : Nat} (hk : k < l.length) (hf : far l v0 k = true) : Below1 l (v.set k 1) := by
  intro u hu j
  rw [wd_set _ _ _ _ (by rw [hv.1]; exact hk)]
  split
  · rename_i e
    subst e
    rw [forced h0.bit (hle.trans (hb u hu)) hu hk hf]
    exact Int.le_refl _
  · exact hb u hu j
theorem zeros_wd (n k : Nat) : wd (List.replicate n (0 : Int)) k = 0 := by
  unfold wd
  rw [List.getElem?_replicate]
  split <;> rfl
theorem zeros_wide (l : List Tx.Ins) : Wide l (List.replicate l.length 0) := ⟨by simp, fun k => Or.inl (zeros_wd _ _)⟩
theorem zeros_below (l : List Tx.Ins) : Below1 l (List.replicate l.length 0) := by
  intro u hu k
  rw [zeros_wd]
  rcases hu.1.bit k with e | e <;> omega
theorem wd_ext {v u : List Int} (hl : v.length = u.length) (h : ∀ k, wd v k = wd u k) : v = u := by
  apply List.ext_getElem hl
  intro k h1 h2
  have := h k
  unfold wd at this
  rw [List.getElem?_eq_getElem h1, List.getElem?_eq_getElem h2] at this
  simpa using this
theorem least_one {l : List Tx.Ins} {v u : List Int} (hv : Least l v) (hu : Least l u) : v = u :=
  wd_ext (hv.1.1.1.trans hu.1.1.1.symm) fun k => Int.le_antisymm (hv.2 u hu.1 k) (hu.2 v hv.1 k)

/-- How many are short still. -/
def shorts (v : List Int) : Nat := v.count 0
theorem shorts_set {v : List Int} {k : Nat} (hk : k < v.length) (h : wd v k = 0) : shorts (v.set k 1) < shorts v := by
  have e : v[k] = 0 := by
    unfold wd at h
    rw [List.getElem?_eq_getElem hk] at h
    simpa using h
  unfold shorts
  rw [List.count_set hk, e]
  have : 0 < v.count 0 := List.count_pos_iff.2 (e ▸ List.getElem_mem hk)
  simp
  omega
theorem far_wd {l : List Tx.Ins} {v : List Int} {k : Nat} (h : far l v k = true) : wd v k = 0 ∧ jumpB (ins l k).1 = true := by
  unfold far at h
  simp only [Bool.and_eq_true, decide_eq_true_eq] at h
  exact ⟨h.1.2, h.1.1⟩

/-- The layout of the code: the first that is too far made wide, so many times. -/
def run (l : List Tx.Ins) : Nat → List Int → List Int
  | 0, v => v
  | n + 1, v => match (List.range l.length).find? (far l v) with
    | some k => run l n (v.set k 1)
    | none => v
def layF (l : List Tx.Ins) : List Int := run l l.length (List.replicate l.length 0)
theorem run_least (l : List Tx.Ins) : ∀ (n : Nat) (v : List Int), Wide l v → Below1 l v → shorts v ≤ n → Least l (run l n v)
  | 0, v, hw, hb, hs => by
    refine ⟨⟨hw, fun k hk => ?_⟩, hb⟩
    cases hf : far l v k
    · exact hf
    · have hk' : k < v.length := by rw [hw.1]; exact hk
      have := shorts_set hk' (far_wd hf).1
      omega
  | n + 1, v, hw, hb, hs => by
    unfold run
    split
    · rename_i k hk
      have hf := List.find?_some hk
      have hm := List.mem_of_find?_eq_some hk
      rw [List.mem_range] at hm
      refine run_least l n _ (wide_set hw hm (far_wd hf).2) (below_set hw hw (Le.refl _) hb hm hf) ?_
      have := shorts_set (k := k) (by rw [hw.1]; exact hm) (far_wd hf).1
      omega
    · rename_i hn
      refine ⟨⟨hw, fun k hk => ?_⟩, hb⟩
      have := List.find?_eq_none.1 hn k (List.mem_range.2 hk)
      simpa using this
theorem least_lay (l : List Tx.Ins) : Least l (layF l) :=
  run_least l _ _ (zeros_wide l) (zeros_below l) (by simp [shorts])
theorem lay_of {l : List Tx.Ins} {v : List Int} (h : Least l v) : v = layF l := least_one h (least_lay l)
theorem lay_len (l : List Tx.Ins) : (layF l).length = l.length := (least_lay l).1.1.1

/-- Whether a row of numbers is a layout of the code. -/
def wideB (l : List Tx.Ins) (v : List Int) : Bool := decide (v.length = l.length) && (List.range v.length).all fun k => decide (wd v k = 0) || (decide (wd v k = 1) && jumpB (ins l k).1)
theorem wide_iff (l : List Tx.Ins) (v : List Int) : wideB l v = true ↔ Wide l v := by
  unfold wideB Wide
  simp only [Bool.and_eq_true, decide_eq_true_eq, List.all_eq_true, List.mem_range, Bool.or_eq_true]
  constructor
  · rintro ⟨h, k⟩
    refine ⟨h, fun j => ?_⟩
    by_cases hj : j < v.length
    · exact k j hj
    · left; unfold wd; rw [List.getElem?_eq_none (by omega)]; rfl
  · rintro ⟨h, k⟩
    exact ⟨h, fun j _ => k j⟩
def rightB (l : List Tx.Ins) (v : List Int) : Bool := wideB l v && (List.range l.length).all fun k => !(far l v k)
theorem right_iff (l : List Tx.Ins) (v : List Int) : rightB l v = true ↔ Right l v := by
  unfold rightB Right
  simp only [Bool.and_eq_true, wide_iff, List.all_eq_true, List.mem_range, Bool.not_eq_true']
end Lay
end Go.Proofs.YtinanjjhkddikaaGreat

/- Programs as plain data, and how they lie in memory. -/
namespace Go.Proofs.YtinanjjhkddikaaGreat
namespace Pg
open Go.ChangeShapes Go.WideShapes Go.ChangeAt Go.RowKit St

structure Meth where
  name : Int
  args : List Int
  gives : Int
  code : List Tx.Ins
structure Cls where
  super : Int
  fields : List Int
  meths : List Meth
abbrev Prg := List Cls

/-- Nothing from block B on has turned. -/
structure Keep (B : Nat) (u w : World) : Prop where
  size : u.heap.size ≤ w.heap.size
  block : ∀ k, B ≤ k → k < u.heap.size → w.heap[k]? = u.heap[k]?
theorem Keep.of {B : Nat} {u w : World} (h : Below u.heap.size u w) : Keep B u w := ⟨h.size, fun k _ hk => h.block k hk⟩
theorem Keep.refl (B : Nat) (u : World) : Keep B u u := ⟨Nat.le_refl _, fun _ _ _ => rfl⟩
theorem Keep.trans {B : Nat} {u v w : World} (h : Keep B u v) (k : Keep B v w) : Keep B u w := ⟨Nat.le_trans h.size k.size, fun i hi hl => (k.block i hi (Nat.lt_of_lt_of_le hl h.size)).trans (h.block i hi hl)⟩
theorem Keep.mono {B B' : Nat} {u w : World} (h : Keep B u w) (hB : B ≤ B') : Keep B' u w := ⟨h.size, fun k hk hl => h.block k (Nat.le_trans hB hk) hl⟩
theorem Keep.cell {B : Nat} {u w : World} (h : Keep B u w) {p : Addr} (hp : B ≤ p.block) (hl : p.block < u.heap.size) : w.cell? p = u.cell? p := World.cell?_of_block (w := u) (h.block _ hp hl)
theorem Keep.frozen {B : Nat} {u w : World} (h : Keep B u w) {p : Addr} (hp : B ≤ p.block) (hl : p.block < u.heap.size) : w.frozen? p = u.frozen? p := World.frozen?_of_block (w := u) (h.block _ hp hl)
theorem Keep.set {B : Nat} (w : World) {p : Addr} (hp : p.block < B) (v : Value) : Keep B w (w.setCell p v) := by
  have hb := (Below.refl 0 w).setCell (p := p) (Nat.zero_le _) v
  exact ⟨hb.size, fun k hk _ => Below.heap_setCell w p v k (by omega)⟩

/-- A slice whose elements lie where it points, each sz cells, not below block B; where f says so, they may be written. -/
def Arr {α : Type} (E : World → Nat → Nat → α → Prop) (sz : Nat) (f : Bool) (B : Nat) (w : World) (v : Value) (l : List α) : Prop :=
  ∃ a cap, v = .slice a l.length cap ∧ (f = true → a = none → cap = 0) ∧ (0 < l.length → ∃ b o, a = some ⟨b, o, none⟩ ∧ B ≤ b ∧ (b < w.heap.size ∧ (f = true → ∀ j, j < l.length * sz → w.frozen? ⟨b, o + j, none⟩ = false)) ∧ ∀ j x, l[j]? = some x → E w b (o + j * sz) x)
/-- What lasts where nothing from B on is turned. -/
def Lasts {α : Type} (B : Nat) (E : World → Nat → Nat → α → Prop) : Prop := ∀ u w b o x, Keep B u w → B ≤ b → E u b o x → E w b o x
theorem Arr.on {α : Type} {E : World → Nat → Nat → α → Prop} {sz B : Nat} {f : Bool} (hE : Lasts B E) {u w : World} {v : Value} {l : List α} (h : Arr E sz f B u v l) (hb : Keep B u w) : Arr E sz f B w v l := by
  obtain ⟨a, cap, hv, hz, h⟩ := h
  refine ⟨a, cap, hv, hz, fun h0 => ?_⟩
  obtain ⟨b, o, ha, hB, ⟨hl, hf⟩, hx⟩ := h h0
  exact ⟨b, o, ha, hB, ⟨Nat.lt_of_lt_of_le hl hb.size, fun e j hj => (hb.frozen (p := ⟨b, o + j, none⟩) hB hl).trans (hf e j hj)⟩, fun j x hj => hE u w _ _ _ hb hB (hx j x hj)⟩
theorem Arr.get {α : Type} {E : World → Nat → Nat → α → Prop} {sz B : Nat} {f : Bool} {w : World} {a : Option Addr} {n cap : Nat} {l : List α} (h : Arr E sz f B w (.slice a n cap) l) {k : Nat} (hk : k < l.length) : ∃ b o, a = some ⟨b, o, none⟩ ∧ B ≤ b ∧ E w b (o + k * sz) l[k] := by
  obtain ⟨a', cap', hv, _, h⟩ := h
  injection hv with e1 e2 e3
  subst e1
  obtain ⟨b, o, ha, hB, _, hx⟩ := h (by omega)
  exact ⟨b, o, ha, hB, hx k _ (List.getElem?_eq_getElem hk)⟩
/-- The same, and that the element may be written. -/
theorem Arr.getW {α : Type} {E : World → Nat → Nat → α → Prop} {sz B : Nat} {w : World} {a : Option Addr} {n cap : Nat} {l : List α} (h : Arr E sz true B w (.slice a n cap) l) {k : Nat} (hk : k < l.length) : ∃ b o, a = some ⟨b, o, none⟩ ∧ B ≤ b ∧ b < w.heap.size ∧ (∀ i, i < sz → w.frozen? ⟨b, o + k * sz + i, none⟩ = false) ∧ E w b (o + k * sz) l[k] := by
  obtain ⟨a', cap', hv, _, h⟩ := h
  injection hv with e1 e2 e3
  subst e1
  obtain ⟨b, o, ha, hB, ⟨hl, hf⟩, hx⟩ := h (by omega)
  refine ⟨b, o, ha, hB, hl, fun i hi => ?_, hx k _ (List.getElem?_eq_getElem hk)⟩
  have h1 : k * sz + i < l.length * sz := by
    have : (k + 1) * sz ≤ l.length * sz := Nat.mul_le_mul_right _ hk
    rw [Nat.add_mul, Nat.one_mul] at this
    omega
  have := hf rfl (k * sz + i) h1
  rw [← Nat.add_assoc] at this
  exact this
theorem Arr.form {α : Type} {E : World → Nat → Nat → α → Prop} {sz B : Nat} {f : Bool} {w : World} {v : Value} {l : List α} (h : Arr E sz f B w v l) : ∃ a cap, v = .slice a l.length cap := by
  obtain ⟨a, cap, hv, _⟩ := h
  exact ⟨a, cap, hv⟩
theorem Arr.nil {α : Type} {E : World → Nat → Nat → α → Prop} {sz B : Nat} {w : World} {n cap : Nat} {l : List α} (h : Arr E sz true B w (.slice none n cap) l) : l = [] ∧ n = 0 ∧ cap = 0 := by
  obtain ⟨a', cap', hv, hz, h⟩ := h
  injection hv with e1 e2 e3
  subst e1 e3
  have hl : l.length = 0 := by
    rcases Nat.eq_zero_or_pos l.length with h0 | h0
    · exact h0
    · obtain ⟨b, o, ha, _⟩ := h h0
      simp at ha
  exact ⟨List.eq_nil_of_length_eq_zero hl, by omega, hz rfl rfl⟩
theorem Arr.weak {α : Type} {E F : World → Nat → Nat → α → Prop} {sz B B' : Nat} {f : Bool} {w : World} {v : Value} {l : List α} (h : Arr E sz f B w v l) (hB : B' ≤ B) (hEF : ∀ b o x, E w b o x → F w b o x) : Arr F sz f B' w v l := by
  obtain ⟨a, cap, hv, hz, h⟩ := h
  refine ⟨a, cap, hv, hz, fun h0 => ?_⟩
  obtain ⟨b, o, ha, hb, hz, hx⟩ := h h0
  exact ⟨b, o, ha, Nat.le_trans hB hb, hz, fun j x hj => hEF _ _ _ (hx j x hj)⟩

def IntAt (w : World) (b o : Nat) (x : Int) : Prop := w.cell? ⟨b, o, none⟩ = some (.int .i64 x)
theorem IntAt.lasts (B : Nat) : Lasts B IntAt := fun _ _ _ _ _ hb hB h => (hb.cell hB (cell_lt h)).trans h
def InsAt (w : World) (b o : Nat) (x : Tx.Ins) : Prop :=
  w.cell? ⟨b, o, none⟩ = some (.int .i64 x.1) ∧ w.cell? ⟨b, o + 1, none⟩ = some (.int .i64 x.2.1) ∧ w.cell? ⟨b, o + 2, none⟩ = some (.int .i64 x.2.2)
theorem InsAt.lasts (B : Nat) : Lasts B InsAt := by
  rintro u w b o x hb hB ⟨h0, h1, h2⟩
  have l : b < u.heap.size := cell_lt h0
  exact ⟨(hb.cell hB l).trans h0, (hb.cell hB l).trans h1, (hb.cell hB l).trans h2⟩
/-- A slice of numbers, wherever it lies. -/
abbrev SI (f : Bool) (B : Nat) := Arr IntAt 1 f B
/-- A slice of steps, wherever it lies. -/
abbrev SC (B : Nat) := Arr InsAt 3 false B
theorem SI.on {f : Bool} {B : Nat} {u w : World} {v : Value} {l : List Int} (h : SI f B u v l) (hb : Keep B u w) : SI f B w v l := Arr.on (IntAt.lasts B) h hb
theorem SC.on {B : Nat} {u w : World} {v : Value} {l : List Tx.Ins} (h : SC B u v l) (hb : Keep B u w) : SC B w v l := Arr.on (InsAt.lasts B) h hb
theorem SI.weak {f : Bool} {B B' : Nat} {w : World} {v : Value} {l : List Int} (h : SI f B w v l) (hB : B' ≤ B) : SI f B' w v l := Arr.weak h hB fun _ _ _ h => h
/-- A slice of steps at the front of a block, which may be written. -/
def CS (B : Nat) (w : World) (v : Value) (l : List Tx.Ins) : Prop := ∃ g cap, v = .slice (some ⟨g, 0, none⟩) l.length cap ∧ B ≤ g ∧ g < w.heap.size ∧ Row w g 0 l ∧ Room w g (l.length * 3)
theorem CS.on {B : Nat} {u w : World} {v : Value} {l : List Tx.Ins} (h : CS B u v l) (hb : Keep B u w) : CS B w v l := by
  obtain ⟨g, cap, hv, h1, h2, h3, h4⟩ := h
  refine ⟨g, cap, hv, h1, Nat.lt_of_lt_of_le h2 hb.size, fun j x hj => ?_, fun i hi => ?_⟩
  · obtain ⟨c0, c1, c2⟩ := h3 j x hj
    exact ⟨(hb.cell h1 h2).trans c0, (hb.cell h1 h2).trans c1, (hb.cell h1 h2).trans c2⟩
  · obtain ⟨⟨x, hx⟩, hf⟩ := h4 i hi
    exact ⟨⟨x, (hb.cell h1 h2).trans hx⟩, (hb.frozen h1 h2).trans hf⟩
/-- How slices may lie: in whatever way that lasts. -/
structure Way where
  fr : Bool
  K : Nat → World → Value → List Tx.Ins → Prop
  on : ∀ {B u w v l}, K B u v l → Keep B u w → K B w v l
  weak : ∀ {B B' w v l}, K B w v l → B' ≤ B → K B' w v l
  form : ∀ {B w v l}, K B w v l → ∃ a cap, v = .slice a l.length cap
def wide : Way := ⟨false, SC, fun h hb => SC.on h hb, fun h hB => Arr.weak h hB fun _ _ _ h => h, fun h => h.form⟩
def front : Way := ⟨true, CS, fun h hb => h.on hb, fun ⟨g, cap, h1, h2, h3⟩ hB => ⟨g, cap, h1, Nat.le_trans hB h2, h3⟩, fun ⟨_, cap, h, _⟩ => ⟨_, cap, h⟩⟩

/-- The four cells of a method, and what they mean. -/
def MV (K : Way) (B : Nat) (w : World) (va vc : Value) (m : Meth) : Prop := SI K.fr B w va m.args ∧ K.K B w vc m.code
def MAt (K : Way) (B : Nat) (w : World) (b o : Nat) (m : Meth) : Prop :=
  ∃ va vc, w.cell? ⟨b, o, none⟩ = some (.int .i64 m.name) ∧ w.cell? ⟨b, o + 1, none⟩ = some va ∧ w.cell? ⟨b, o + 2, none⟩ = some (.int .i64 m.gives) ∧ w.cell? ⟨b, o + 3, none⟩ = some vc ∧ MV K B w va vc m
theorem MV.on {K : Way} {B : Nat} {u w : World} {va vc : Value} {m : Meth} (h : MV K B u va vc m) (hb : Keep B u w) : MV K B w va vc m := ⟨SI.on h.1 hb, K.on h.2 hb⟩
theorem MV.weak {K : Way} {B B' : Nat} {w : World} {va vc : Value} {m : Meth} (h : MV K B w va vc m) (hB : B' ≤ B) : MV K B' w va vc m := ⟨SI.weak h.1 hB, K.weak h.2 hB⟩
theorem MAt.lasts (K : Way) (B : Nat) : Lasts B (MAt K B) := by
  rintro u w b o m hb hB ⟨va, vc, h0, h1, h2, h3, h4⟩
  have l : b < u.heap.size := cell_lt h0
  exact ⟨va, vc, (hb.cell hB l).trans h0, (hb.cell hB l).trans h1, (hb.cell hB l).trans h2, (hb.cell hB l).trans h3, h4.on hb⟩
abbrev SM (K : Way) (B : Nat) := Arr (MAt K B) 4 K.fr B
theorem SM.on {K : Way} {B : Nat} {u w : World} {v : Value} {l : List Meth} (h : SM K B u v l) (hb : Keep B u w) : SM K B w v l := Arr.on (MAt.lasts K B) h hb
theorem SM.weak {K : Way} {B B' : Nat} {w : World} {v : Value} {l : List Meth} (h : SM K B w v l) (hB : B' ≤ B) : SM K B' w v l :=
  Arr.weak h hB fun _ _ _ ⟨va, vc, h0, h1, h2, h3, h4⟩ => ⟨va, vc, h0, h1, h2, h3, h4.weak hB⟩
def CV (K : Way) (B : Nat) (w : World) (vf vm : Value) (c : Cls) : Prop := SI K.fr B w vf c.fields ∧ SM K B w vm c.meths
def CAt (K : Way) (B : Nat) (w : World) (b o : Nat) (c : Cls) : Prop :=
  ∃ vf vm, w.cell? ⟨b, o, none⟩ = some (.int .i64 c.super) ∧ w.cell? ⟨b, o + 1, none⟩ = some vf ∧ w.cell? ⟨b, o + 2, none⟩ = some vm ∧ CV K B w vf vm c
theorem CV.on {K : Way} {B : Nat} {u w : World} {vf vm : Value} {c : Cls} (h : CV K B u vf vm c) (hb : Keep B u w) : CV K B w vf vm c := ⟨SI.on h.1 hb, SM.on h.2 hb⟩
theorem CV.weak {K : Way} {B B' : Nat} {w : World} {vf vm : Value} {c : Cls} (h : CV K B w vf vm c) (hB : B' ≤ B) : CV K B' w vf vm c := ⟨SI.weak h.1 hB, SM.weak h.2 hB⟩
theorem CAt.lasts (K : Way) (B : Nat) : Lasts B (CAt K B) := by
  rintro u w b o m hb hB ⟨vf, vm, h0, h1, h2, h4⟩
  have l : b < u.heap.size := cell_lt h0
  exact ⟨vf, vm, (hb.cell hB l).trans h0, (hb.cell hB l).trans h1, (hb.cell hB l).trans h2, h4.on hb⟩
abbrev SK (K : Way) (B : Nat) := Arr (CAt K B) 3 K.fr B
theorem SK.on {K : Way} {B : Nat} {u w : World} {v : Value} {l : Prg} (h : SK K B u v l) (hb : Keep B u w) : SK K B w v l := Arr.on (CAt.lasts K B) h hb
theorem SK.weak {K : Way} {B B' : Nat} {w : World} {v : Value} {l : Prg} (h : SK K B w v l) (hB : B' ≤ B) : SK K B' w v l :=
  Arr.weak h hB fun _ _ _ ⟨va, vc, h0, h1, h2, h4⟩ => ⟨va, vc, h0, h1, h2, h4.weak hB⟩
theorem SI.row {f : Bool} {w : World} {B g cap : Nat} {l : List Int} (hB : B ≤ g) (hg : g < w.heap.size) (h : IRow w g 0 l) (hr : Room w g l.length) : SI f B w (.slice (some ⟨g, 0, none⟩) l.length cap) l :=
  ⟨_, cap, rfl, fun _ h => by simp at h, fun _ => ⟨g, 0, rfl, hB, ⟨hg, fun _ j hj => by rw [Nat.mul_one] at hj; rw [Nat.zero_add]; exact (hr j hj).2⟩, fun j x hj => by rw [Nat.mul_one]; exact h j x hj⟩⟩

/-- How much there is in a program. -/
def szM (m : Meth) : Nat := m.args.length + m.code.length
def sumN (l : List Nat) : Nat := l.foldr (· + ·) 0
def szMs (ms : List Meth) : Nat := ms.length + sumN (ms.map szM)
def szC (c : Cls) : Nat := c.fields.length + szMs c.meths
def szP (p : Prg) : Nat := p.length + sumN (p.map szC)
theorem sumN_le {l : List Nat} {n : Nat} (h : n ∈ l) : n ≤ sumN l := by
  induction l with
  | nil => simp at h
  | cons x l ih =>
    simp only [sumN, List.foldr_cons]
    rcases List.mem_cons.1 h with rfl | h
    · omega
    · have := ih h; simp only [sumN] at this; omega
theorem sumN_take_succ {α : Type} (f : α → Nat) (l : List α) (k : Nat) (hk : k < l.length) : sumN ((l.take (k + 1)).map f) = sumN ((l.take k).map f) + f l[k] := by
  rw [List.take_succ_eq_append_getElem hk, List.map_append]
  generalize (l.take k).map f = a
  induction a with
  | nil => simp [sumN]
  | cons x a ih => simp only [sumN, List.cons_append, List.foldr_cons] at ih ⊢; omega
theorem sumN_take_le {α : Type} (f : α → Nat) (l : List α) (k : Nat) : sumN ((l.take k).map f) ≤ sumN (l.map f) := by
  induction l generalizing k with
  | nil => simp
  | cons x l ih =>
    cases k with
    | zero => simp [sumN]
    | succ k => have := ih k; simp only [sumN, List.take_succ_cons, List.map_cons, List.foldr_cons] at this ⊢; omega
theorem szM_le {ms : List Meth} {m : Meth} (h : m ∈ ms) : szM m ≤ szMs ms := by
  have := sumN_le (List.mem_map_of_mem (f := szM) h); unfold szMs; omega
theorem szC_le {p : Prg} {c : Cls} (h : c ∈ p) : szC c ≤ szP p := by
  have := sumN_le (List.mem_map_of_mem (f := szC) h); unfold szP; omega
end Pg
end Go.Proofs.YtinanjjhkddikaaGreat

/- Lists that rise, and what may come next, plainly. -/
namespace Go.Proofs.YtinanjjhkddikaaGreat
namespace Pg
open Go.ChangeShapes Go.WideShapes Go.ChangeAt Go.RowKit St

/-- A number into a list that rises, once. -/
def putL : List Int → Int → List Int
  | [], n => [n]
  | x :: l, n => if x < n then x :: putL l n else if x = n then x :: l else n :: x :: l
abbrev Rise (l : List Int) : Prop := l.Pairwise (· < ·)
theorem rise_ext : ∀ {l r : List Int}, Rise l → Rise r → (∀ x, x ∈ l ↔ x ∈ r) → l = r
  | [], [], _, _, _ => rfl
  | [], y :: r, _, _, h => absurd ((h y).2 List.mem_cons_self) (by simp)
  | x :: l, [], _, _, h => absurd ((h x).1 List.mem_cons_self) (by simp)
  | x :: l, y :: r, h1, h2, h => by
    obtain ⟨a1, b1⟩ := List.pairwise_cons.1 h1
    obtain ⟨a2, b2⟩ := List.pairwise_cons.1 h2
    have hxy : x = y := by
      rcases List.mem_cons.1 ((h x).1 List.mem_cons_self) with e | e
      · exact e
      · rcases List.mem_cons.1 ((h y).2 List.mem_cons_self) with e' | e'
        · exact e'.symm
        · have := a2 x e; have := a1 y e'; omega
    subst hxy
    have : l = r := rise_ext b1 b2 (fun z => ⟨fun hz => by
      rcases List.mem_cons.1 ((h z).1 (List.mem_cons_of_mem _ hz)) with e | e
      · have := a1 z hz; omega
      · exact e, fun hz => by
      rcases List.mem_cons.1 ((h z).2 (List.mem_cons_of_mem _ hz)) with e | e
      · have := a2 z hz; omega
      · exact e⟩)
    rw [this]
theorem putL_mem (l : List Int) (n x : Int) : x ∈ putL l n ↔ x = n ∨ x ∈ l := by
  induction l with
  | nil => simp [putL]
  | cons y l ih =>
    simp only [putL]
    split
    · rw [List.mem_cons, ih, List.mem_cons]; constructor <;> (intro h; rcases h with h | h | h <;> simp [h])
    · split
      · rename_i h; subst h; simp
      · simp
theorem putL_rise {l : List Int} (h : Rise l) (n : Int) : Rise (putL l n) := by
  induction l with
  | nil => simp [putL]
  | cons y l ih =>
    obtain ⟨a, b⟩ := List.pairwise_cons.1 h
    simp only [putL]
    split
    · rename_i hy
      refine List.pairwise_cons.2 ⟨fun z hz => ?_, ih b⟩
      rcases (putL_mem l n z).1 hz with rfl | hz
      · exact hy
      · exact a z hz
    · split
      · exact h
      · rename_i h1 h2
        refine List.pairwise_cons.2 ⟨fun z hz => ?_, h⟩
        rcases List.mem_cons.1 hz with rfl | hz
        · omega
        · have := a z hz; omega
theorem putL_len (l : List Int) (n : Int) : (putL l n).length ≤ l.length + 1 := by
  induction l with
  | nil => simp [putL]
  | cons y l ih =>
    simp only [putL]
    split
    · simp; omega
    · split <;> simp
/-- Where the number is, or would be. -/
theorem putL_at {l : List Int} {k : Nat} {n : Int} (h1 : ∀ x ∈ l.take k, x < n) (hk : k ≤ l.length) : (∀ x, l[k]? = some x → x = n → putL l n = l) ∧ ((∀ x, l[k]? = some x → n < x) → putL l n = l.take k ++ n :: l.drop k) := by
  induction l generalizing k with
  | nil =>
    have : k = 0 := by simpa using hk
    subst this
    simp [putL]
  | cons y l ih =>
    cases k with
    | zero =>
      refine ⟨fun x hx e => ?_, fun h => ?_⟩
      · simp at hx; subst hx; subst e; simp [putL]
      · have := h y (by simp)
        simp only [putL]
        rw [if_neg (by omega), if_neg (by omega)]
        simp
    | succ k =>
      have hy : y < n := h1 y (by simp)
      obtain ⟨a, b⟩ := ih (k := k) (fun x hx => h1 x (by rw [List.take_succ_cons]; exact List.mem_cons_of_mem _ hx)) (by simpa using hk)
      refine ⟨fun x hx e => ?_, fun h => ?_⟩
      · simp only [putL, hy, if_true]; rw [a x (by simpa using hx) e]
      · simp only [putL, hy, if_true]; rw [b (fun x hx => h x (by simpa using hx))]; simp
theorem foldl_put (m : List Int) : ∀ (l : List Int), Rise l → Rise (m.foldl putL l) ∧ ∀ x, x ∈ m.foldl putL l ↔ x ∈ m ∨ x ∈ l := by
  induction m with
  | nil => intro l h; exact ⟨h, fun x => by simp⟩
  | cons y m ih =>
    intro l h
    obtain ⟨a, b⟩ := ih (putL l y) (putL_rise h y)
    refine ⟨a, fun x => ?_⟩
    rw [List.foldl_cons, b x, putL_mem, List.mem_cons]
    constructor
    · rintro (h | h | h)
      · exact .inl (.inr h)
      · exact .inl (.inl h)
      · exact .inr h
    · rintro ((h | h) | h)
      · exact .inr (.inl h)
      · exact .inl h
      · exact .inr (.inr h)
theorem foldl_put_len (m : List Int) : ∀ (l : List Int), (m.foldl putL l).length ≤ m.length + l.length := by
  induction m with
  | nil => intro l; simp
  | cons y m ih => intro l; have := ih (putL l y); have := putL_len l y; simp only [List.foldl_cons, List.length_cons]; omega
/-- Where one may come next, as the program tells it: also behind the last one. -/
def waysF (i : Tx.Ins) (at' : Nat) : List Nat :=
  if i.1 = 20 then [] else if i.1 = 11 then [i.2.1.toNat] else if i.1 = 12 then [i.2.1.toNat, at' + 1] else [at' + 1]
def insF (code : List Tx.Ins) (i : Nat) : Tx.Ins := code.getD i (0, 0, 0)
theorem mem_putL {x n : Int} : ∀ {l : List Int}, x ∈ putL l n ↔ x ∈ l ∨ x = n
  | [] => by simp [putL]
  | y :: l => by
    unfold putL
    split
    · rw [List.mem_cons, mem_putL (l := l), List.mem_cons]
      constructor
      · rintro (h | h | h)
        · exact .inl (.inl h)
        · exact .inl (.inr h)
        · exact .inr h
      · rintro ((h | h) | h)
        · exact .inl h
        · exact .inr (.inl h)
        · exact .inr (.inr h)
    · split
      · rename_i h1 h2
        subst h2
        constructor
        · exact fun h => .inl h
        · rintro (h | h)
          · exact h
          · rw [h]; exact List.mem_cons_self
      · rw [List.mem_cons]
        constructor
        · rintro (h | h)
          · exact .inr h
          · exact .inl h
        · rintro (h | h)
          · exact .inr h
          · exact .inl h
def nextsF (code : List Tx.Ins) (a : Nat) : List Int :=
  let b : List Int := if (insF code a).1 ≠ 11 ∧ (insF code a).1 ≠ 20 ∧ a + 1 < code.length then [(a : Int) + 1] else []
  if (insF code a).1 = 11 ∨ (insF code a).1 = 12 then putL b (insF code a).2.1 else b
def nextsL (op A : Int) (k n : Nat) : List Int :=
  if op = 11 ∨ op = 12 then putL (if op ≠ 11 ∧ op ≠ 20 ∧ k + 1 < n then [(k : Int) + 1] else []) A else (if op ≠ 11 ∧ op ≠ 20 ∧ k + 1 < n then [(k : Int) + 1] else [])
theorem nexts_is (code : List Tx.Ins) (k : Nat) : nextsF code k = nextsL (insF code k).1 (insF code k).2.1 k code.length := rfl
end Pg
end Go.Proofs.YtinanjjhkddikaaGreat
