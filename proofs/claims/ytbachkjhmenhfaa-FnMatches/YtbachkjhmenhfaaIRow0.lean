/- Rows of numbers: what the laws' own functions do with them. -/
import Derived.Test.YtbachkjhmenhfaaRow2
import Derived.Laws.OwnMore
namespace Go.Proofs.Ytbachkjhmenhfaa
namespace St
open Go.ChangeShapes Go.WideShapes Go.ChangeAt Go.RowKit

/-- The numbers l lie in block g from place o on. -/
def IRow (w : World) (g o : Nat) (l : List Int) : Prop := ∀ j x, l[j]? = some x → w.cell? ⟨g, o + j, none⟩ = some (.int .i64 x)
theorem IRow.on {u v : World} {g o : Nat} {l : List Int} (h : IRow u g o l) (hb : Below u.heap.size u v) : IRow v g o l := fun j x hj => (hb.cell (cell_lt (h j x hj))).trans (h j x hj)
theorem IRow.below {B : Nat} {u v : World} {g o : Nat} {l : List Int} (h : IRow u g o l) (hb : Below B u v) (hg : g < B) : IRow v g o l := fun j x hj => (hb.cell hg).trans (h j x hj)
theorem Only.irow {g g' o : Nat} {u v : World} {l : List Int} (h : Only g u v) (hne : g' ≠ g) (hr : IRow u g' o l) : IRow v g' o l := fun j x hj => (World.cell?_of_block (w := u) (h.block g' hne)).trans (hr j x hj)
theorem Only.room {g g' n : Nat} {u v : World} (h : Only g u v) (hne : g' ≠ g) (hr : Room u g' n) : Room v g' n := by
  intro i hi
  obtain ⟨⟨x, hx⟩, hf⟩ := hr i hi
  exact ⟨⟨x, (World.cell?_of_block (w := u) (h.block g' hne)).trans hx⟩, (World.frozen?_of_block (w := u) (h.block g' hne)).trans hf⟩
theorem IRow.nil (w : World) (g o : Nat) : IRow w g o [] := fun j x h => by simp at h
/-- One more number written behind those that lie there. -/
theorem irow_next {w : World} {g k : Nat} {l : List Int} (hk : k < l.length) (hroom : Room w g l.length) (hr : IRow w g 0 (l.take k)) : IRow (w.setCell ⟨g, k, none⟩ (.int .i64 l[k])) g 0 (l.take (k + 1)) := by
  intro j x hj
  rw [List.getElem?_take] at hj
  split at hj
  · rename_i hjk
    rw [Nat.zero_add]
    by_cases e : j = k
    · subst e
      rw [List.getElem?_eq_getElem hk] at hj
      injection hj with hj
      subst hj
      obtain ⟨⟨y, hy⟩, _⟩ := hroom j hk
      exact World.cell?_setCell_same _ _ _ hy
    · have hjt : (l.take k)[j]? = some x := by rw [List.getElem?_take, if_pos (by omega)]; exact hj
      have := hr j x hjt
      rw [Nat.zero_add] at this
      exact (World.cell?_setCell_other _ _ _ _ (fun e' => e (congrArg Addr.off e').symm)).trans this
  · simp at hj
/-- One number of a row written anew. -/
theorem irow_set {w : World} {g k : Nat} {l : List Int} (x : Int) (hr : IRow w g 0 l) : IRow (w.setCell ⟨g, k, none⟩ (.int .i64 x)) g 0 (l.set k x) := by
  intro j y hj
  rw [Nat.zero_add]
  rw [List.getElem?_set] at hj
  by_cases e : k = j
  · subst e
    by_cases hk : k < l.length
    · rw [if_pos rfl, if_pos hk] at hj
      injection hj with hj
      subst hj
      have := hr k _ (List.getElem?_eq_getElem hk)
      rw [Nat.zero_add] at this
      exact World.cell?_setCell_same _ _ _ this
    · rw [if_pos rfl, if_neg hk] at hj
      simp at hj
  · rw [if_neg e] at hj
    have := hr j y hj
    rw [Nat.zero_add] at this
    exact (World.cell?_setCell_other _ _ _ _ (fun e' => e (congrArg Addr.off e'))).trans this

theorem made_lt {w : World} {B e n g cap q : Nat} {xs : List Value} (h : w.ownsRow B e q (.slice (some ⟨g, 0, none⟩) n cap) n xs) : g < w.heap.size := by
  obtain ⟨_, h | ⟨g', cap', cur, hv, _, hblk, _⟩⟩ := h
  · simp at h
  · injection hv with h1 h2 h3
    simp at h1
    subst h1
    rcases Nat.lt_or_ge g w.heap.size with h | h
    · exact h
    · rw [Array.getElem?_eq_none h] at hblk
      simp at hblk

theorem irow_made {w : World} {B e n g cap : Nat} (h : w.ownsRow B e 1 (.slice (some ⟨g, 0, none⟩) n cap) n (madeCells (Value.int .i64 0).cells (n * 1)).toList) : IRow w g 0 (List.replicate n 0) := by
  intro j x hj
  rw [List.getElem?_replicate] at hj
  split at hj
  · rename_i hjn
    injection hj with hj
    subst hj
    have := World.ownsRow.cells h (g := g) rfl j (.int .i64 0) (by
      rw [Nat.mul_one]
      show (madeCells #[.int .i64 0] n).toList[j]? = _
      rw [toList_madeCells_one, List.getElem?_replicate, if_pos hjn])
    simp only [Go.WideShapes.add_plain, Nat.zero_add] at this
    simpa using this
  · simp at hj

theorem infoN : (Try.prog.info? 2).map (fun i => (i.zero, i.size, i.bytes)) = some (some (.int .i64 0), 1, 8) := by kernel_rfl

set_option maxHeartbeats 1000000 in
theorem eqInts (g g' cap cap' : Nat) (l : List Int) (hl : l.length ≤ 1048576) (w : World) (h1 : IRow w g 0 l) (h2 : IRow w g' 0 l) :
    Calls Try.prog 29 #[.slice (some ⟨g, 0, none⟩) l.length cap, .slice (some ⟨g', 0, none⟩) l.length cap'] w fun e w' => e = .returned (.bool true) ∧ Below w.heap.size w w' := by
  have H1 : Hid (IRow w g 0 l) := h1
  have H2 : Hid (IRow w g' 0 l) := h2
  clear h1 h2
  go_enter Try.func29, Try.ntmps29
  go_wp2
  go_loopw [5] (fun i wr => ∃ k : Nat, k ≤ l.length ∧ i = .int .i64 k ∧ Below w.heap.size w wr) (fun i _ => l.length - (intOf i).toNat)
  case atStart => exact ⟨0, Nat.zero_le _, rfl, Below.refl _ _⟩
  case round =>
    obtain ⟨k, hk, rfl, hb⟩ := hrel
    by_cases hlt : k < l.length
    · have a0 := H1.out.on hb k _ (List.getElem?_eq_getElem hlt)
      have b0 := H2.out.on hb k _ (List.getElem?_eq_getElem hlt)
      generalize l[k] = x at *
      simp only [Nat.zero_add] at a0 b0
      have hki : (k : Int) < (l.length : Int) := by omega
      have hki0 : (0 : Int) ≤ (k : Int) := by omega
      have r0 := cell_regrown a0
      have s0 := cell_regrown b0
      go_wp2_with fail
      refine wp_region_quiet_below (by kernel_rfl) (by kernel_rfl) ?_
      repeat (quiet_step (fail))
      refine wpQuiet_nil ?_
      intro _ hw'
      obtain ⟨⟨dq, osq⟩, hw''⟩ := hw'
      subst hw''
      have hw1 : Below w.heap.size w (Sort.grow (redrawn wr dq) osq) := below_over hb (below_regrown wr dq osq)
      clear a0 b0 r0 s0 hb
      generalize Sort.grow (redrawn wr dq) osq = w1 at *
      go_wp2
      go_roundw
      case rel => exact ⟨k + 1, by omega, by go_num, hw1⟩
      case measure => simp [intOf]; omega
    · go_wp2
      go_ret
      exact ⟨rfl, hb⟩
set_option maxHeartbeats 1000000 in
theorem likeSame (g g' cap cap' : Nat) (l : List Int) (hl : l.length ≤ 1048576) (w : World) (h1 : IRow w g 0 l) (h2 : IRow w g' 0 l) :
    Calls Try.prog 17 #[.slice (some ⟨g, 0, none⟩) l.length cap, .slice (some ⟨g', 0, none⟩) l.length cap'] w fun e w' => e = .returned (.bool true) ∧ Below w.heap.size w w' := by
  have H1 : Hid (IRow w g 0 l) := h1
  have H2 : Hid (IRow w g' 0 l) := h2
  clear h1 h2
  go_enter Try.func17, Try.ntmps17
  go_wp2
  go_loopw [5] (fun i wr => ∃ k : Nat, k ≤ l.length ∧ i = .int .i64 k ∧ Below w.heap.size w wr) (fun i _ => l.length - (intOf i).toNat)
  case atStart => exact ⟨0, Nat.zero_le _, rfl, Below.refl _ _⟩
  case round =>
    obtain ⟨k, hk, rfl, hb⟩ := hrel
    by_cases hlt : k < l.length
    · have a0 := H1.out.on hb k _ (List.getElem?_eq_getElem hlt)
      have b0 := H2.out.on hb k _ (List.getElem?_eq_getElem hlt)
      generalize l[k] = x at *
      simp only [Nat.zero_add] at a0 b0
      have hki : (k : Int) < (l.length : Int) := by omega
      have hki0 : (0 : Int) ≤ (k : Int) := by omega
      have r0 := cell_regrown a0
      have s0 := cell_regrown b0
      go_wp2_with fail
      refine wp_region_quiet_below (by kernel_rfl) (by kernel_rfl) ?_
      repeat (quiet_step (fail))
      refine wpQuiet_nil ?_
      intro _ hw'
      obtain ⟨⟨dq, osq⟩, hw''⟩ := hw'
      subst hw''
      have hw1 : Below w.heap.size w (Sort.grow (redrawn wr dq) osq) := below_over hb (below_regrown wr dq osq)
      clear a0 b0 r0 s0 hb
      generalize Sort.grow (redrawn wr dq) osq = w1 at *
      go_wp2
      go_roundw
      case rel => exact ⟨k + 1, by omega, by go_num, hw1⟩
      case measure => simp [intOf]; omega
    · go_wp2
      go_ret
      exact ⟨rfl, hb⟩
/-- The marks k, k + 1, .. -/
def imarks (m n : Nat) : List Int := (List.range n).map fun (j : Nat) => (m : Int) + (j : Int)
theorem imarks_len (m n : Nat) : (imarks m n).length = n := by simp [imarks]
theorem imarks_at {m n k : Nat} (h : k < n) : (imarks m n)[k]? = some ((m : Int) + (k : Int)) := by simp [imarks, h]
set_option maxRecDepth 100000 in
set_option maxHeartbeats 1000000 in
theorem imark_at (g cap m n : Nat) (hm : m ≤ 4000000) (hn : n ≤ 1048576) (w : World) (hr : Room w g n) :
    Calls Try.prog 33 #[.slice (some ⟨g, 0, none⟩) n cap, .int .i64 m] w fun e w' => e = .returned (.int .i64 ((m : Int) + (n : Int))) ∧ IRow w' g 0 (imarks m n) ∧ Room w' g n ∧ Only g w w' := by
  have HR : Hid (Room w g n) := hr
  clear hr
  go_enter Try.func33, Try.ntmps33
  go_wp2
  go_loopw [1, 5] (fun q i wr => ∃ k : Nat, k ≤ n ∧ i = .int .i64 k ∧ q = .int .i64 ((m : Int) + (k : Int)) ∧ Hid (Room wr g n) ∧ Hid (IRow wr g 0 ((imarks m n).take k)) ∧ Hid (Only g w wr)) (fun _ i _ => n - (intOf i).toNat)
  case atStart => exact ⟨0, Nat.zero_le _, rfl, by simp, HR.out, fun j x h => by simp at h, Only.refl _ _⟩
  case round =>
    obtain ⟨k, hk, rfl, rfl, hrm, hrw, hon⟩ := hrel
    by_cases hlt : k < n
    · have hki : (k : Int) < (n : Int) := by omega
      obtain ⟨⟨x0, d0⟩, f0⟩ := hrm.out k hlt
      have hml : k < (imarks m n).length := by rw [imarks_len]; exact hlt
      have HN := irow_next hml (by rw [imarks_len]; exact hrm.out) hrw.out
      have hmk : (imarks m n)[k] = (m : Int) + (k : Int) := by
        have := imarks_at (m := m) hlt
        rw [List.getElem?_eq_getElem hml] at this
        simpa using this
      rw [hmk] at HN
      have HNX : Hid (IRow (wr.setCell ⟨g, k, none⟩ (.int .i64 ((m : Int) + (k : Int)))) g 0 ((imarks m n).take (k + 1))) := HN
      clear HN hmk hml
      go_wp2
      go_roundw
      case rel => exact ⟨k + 1, by omega, by go_num, by go_num, hrm.out.set _ _, HNX.out, hon.out.set _ _⟩
      case measure => simp [intOf]; omega
    · have e : (imarks m n).take k = imarks m n := List.take_of_length_le (by rw [imarks_len]; omega)
      have hkn : k = n := by omega
      have HE := hrw.out
      rw [e] at HE
      have HEE : Hid (IRow wr g 0 (imarks m n)) := HE
      have HKN : Hid (k = n) := hkn
      clear HE e hkn
      go_wp2
      go_ret
      exact ⟨by rw [← HKN.out]; rfl, HEE.out, hrm.out, hon.out⟩
set_option maxRecDepth 100000 in
set_option maxHeartbeats 1000000 in
theorem iheld_at (g cap m n : Nat) (hm : m ≤ 4000000) (hn : n ≤ 1048576) (w : World) (hr : IRow w g 0 (imarks m n)) :
    Calls Try.prog 34 #[.slice (some ⟨g, 0, none⟩) n cap, .int .i64 m] w fun e w' => e = .returned (.int .i64 ((m : Int) + (n : Int))) ∧ w = w' := by
  have HR : Hid (IRow w g 0 (imarks m n)) := hr
  clear hr
  go_enter Try.func34, Try.ntmps34
  go_wp2
  go_loop [1, 5] (fun q i => ∃ k : Nat, k ≤ n ∧ i = .int .i64 k ∧ q = .int .i64 ((m : Int) + (k : Int))) (fun _ i => n - (intOf i).toNat)
  case atStart => exact ⟨0, Nat.zero_le _, rfl, by simp⟩
  case round =>
    obtain ⟨k, hk, rfl, rfl⟩ := hrel
    by_cases hlt : k < n
    · have hki : (k : Int) < (n : Int) := by omega
      have h0 := HR.out k _ (imarks_at hlt)
      simp only [Nat.zero_add] at h0
      go_wp2
      go_round
      case rel => exact ⟨k + 1, by omega, by go_num, by go_num⟩
      case measure => simp [intOf]; omega
    · have HKN : Hid (k = n) := by show k = n; omega
      go_wp2
      go_ret
      exact ⟨by rw [← HKN.out]; rfl, rfl⟩
end St
end Go.Proofs.Ytbachkjhmenhfaa
