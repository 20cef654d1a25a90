/- The contract of the program's places. -/
import Derived.Test.YtnlanikjlokboaaLo2
namespace Go.Proofs.Ytnlanikjlokboaa
namespace St
open Go.ChangeShapes Go.WideShapes Go.ChangeAt Go.RowKit

theorem pl_next {l : List Tx.Ins} {v : List Int} {k : Nat} (hk : k < l.length) (hv : k < v.length) : Lay.pl l v (k + 1) = Lay.pl l v k + Lay.bytesF l[k].1 l[k].2.1 + v[k] := by
  simp only [Lay.pl, Lay.sz, ins_at hk, wd_at hv]; omega
theorem places_take {l : List Tx.Ins} {v : List Int} {k : Nat} (hk : k ≤ l.length) : (Lay.places l v)[k]'(by rw [Lay.places_len]; omega) = Lay.pl l v k := by
  have := Lay.places_at (v := v) hk
  rw [List.getElem?_eq_getElem (by rw [Lay.places_len]; omega)] at this
  simpa using this
theorem place_next {w : World} {g k : Nat} {l : List Tx.Ins} {v : List Int} (hk : k < l.length) (hroom : Room w g (l.length + 1)) (hr : IRow w g 0 ((Lay.places l v).take (k + 1))) : IRow (w.setCell ⟨g, k + 1, none⟩ (.int .i64 (Lay.pl l v (k + 1)))) g 0 ((Lay.places l v).take (k + 1 + 1)) := by
  have hl : k + 1 < (Lay.places l v).length := by rw [Lay.places_len]; omega
  have := irow_next hl (by rw [Lay.places_len]; exact hroom) hr
  rw [places_take (v := v) (show k + 1 ≤ l.length by omega)] at this
  exact this
set_option maxRecDepth 100000 in
set_option maxHeartbeats 1000000 in
theorem placesBy (g cap g' cap' : Nat) (l : List Tx.Ins) (v : List Int) (hl : l.length ≤ 40) (hv : v.length = l.length) (hbit : ∀ k, Lay.wd v k = 0 ∨ Lay.wd v k = 1) (w : World) (hr : Row w g 0 l) (hi : IRow w g' 0 v) :
    Calls Try.prog 34 #[.slice (some ⟨g, 0, none⟩) l.length cap, .slice (some ⟨g', 0, none⟩) l.length cap'] w fun e w' => e = .returned (.slice (some ⟨w.heap.size, 0, none⟩) (Lay.places l v).length (Lay.places l v).length) ∧ IRow w' w.heap.size 0 (Lay.places l v) ∧ Room w' w.heap.size (Lay.places l v).length ∧ w.heap.size < w'.heap.size ∧ Below w.heap.size w w' := by
  obtain ⟨i0, hif, hz0, hz1, hz2⟩ := info_parts infoN
  have HR : Hid (Row w g 0 l) := hr
  have HI : Hid (IRow w g' 0 v) := hi
  have HBIT : Hid (∀ k, Lay.wd v k = 0 ∨ Lay.wd v k = 1) := hbit
  have HPL : Hid ((Lay.places l v).length = l.length + 1) := Lay.places_len l v
  have HL : Hid (v.length = l.length) := hv
  clear hr hi hbit hv
  rw [HPL.out]
  go_enter Try.func34, Try.ntmps34
  go_wp2_with (at_make; refine wpList_make_full _ rfl _ _ 25 rfl w.heap.size 2 i0 (.int .i64 0) 1 Try.underlying25 hif hz0 hz1 .i64 .i64 _ _ (l.length + 1) rfl rfl rfl rfl (by rw [hz2]; omega) (by unfold maxLen; omega) (Nat.le_refl _) ?_; intro w0 hown0 hgrow0)
  have hroom := room_own hown0 (Nat.le_refl _)
  rw [Nat.mul_one] at hroom
  have hz : IRow w0 w.heap.size 0 ((Lay.places l v).take 1) := by
    intro j x hj
    rw [List.getElem?_take] at hj
    split at hj
    · rename_i h1
      have h0 : j = 0 := by omega
      subst h0
      rw [Lay.places_at (Nat.zero_le _)] at hj
      injection hj with hj
      subst hj
      have := irow_made hown0 0 0 (by rw [List.getElem?_replicate, if_pos (Nat.succ_pos _)])
      exact this
    · simp at hj
  have hsz0 : w.heap.size < w0.heap.size := made_lt hown0
  have hb0 : Below w.heap.size w w0 := (Below.refl _ _).grown hgrow0 (Nat.le_refl _) (fun _ h => by simp at h)
  clear hown0 hgrow0
  go_loopw [14] (fun i wr => ∃ k : Nat, k ≤ l.length ∧ i = .int .i64 k ∧ Hid (Room wr w.heap.size (l.length + 1)) ∧ Hid (IRow wr w.heap.size 0 ((Lay.places l v).take (k + 1))) ∧ w.heap.size < wr.heap.size ∧ Below w.heap.size w wr) (fun i _ => l.length - (intOf i).toNat)
  case atStart => exact ⟨0, Nat.zero_le _, rfl, hroom, hz, hsz0, hb0⟩
  case round =>
    obtain ⟨k, hk, rfl, hrm, hrw, hsz, hb⟩ := hrel
    by_cases hlt : k < l.length
    · have hlv : k < v.length := by rw [HL.out]; exact hlt
      obtain ⟨d0, d1, d2⟩ := HR.out.on hb k _ (List.getElem?_eq_getElem hlt)
      have i1 := HI.out.on hb k _ (List.getElem?_eq_getElem hlv)
      have p0 : wr.cell? ⟨w.heap.size, 0 + k, none⟩ = some (.int .i64 (Lay.pl l v k)) := hrw.out k _ (by rw [List.getElem?_take, if_pos (by omega)]; exact Lay.places_at hk)
      obtain ⟨⟨x0, q0⟩, f0⟩ := hrm.out (k + 1) (by omega)
      have hpb := Lay.pl_bd (l := l) HBIT.out k
      have hnb := HBIT.out k
      have hbb := Lay.bytes_bd l[k].1 l[k].2.1
      have HNX : Hid (Lay.pl l v (k + 1) = Lay.pl l v k + Lay.bytesF l[k].1 l[k].2.1 + v[k]) := pl_next hlt hlv
      rw [wd_at hlv] at hnb
      generalize l[k] = x at *
      generalize v[k] = n at *
      generalize hpk : Lay.pl l v k = pk at *
      clear hpk hlv
      obtain ⟨op, a, b⟩ := x
      simp only [Nat.zero_add] at d0 d1 d2 i1 p0
      have hki : (k : Int) < (l.length : Int) := by omega
      have hk1 : (0 : Int) ≤ (k : Int) := by omega
      have hk2 : (k : Int) < (l.length : Int) + 1 := by omega
      have hk3 : (k : Int) + 1 < (l.length : Int) + 1 := by omega
      go_wp2_with fail
      obtain ⟨W, hW⟩ : ∃ W : World, W = wr.alloc (.cells #[.int .i64 op, .int .i64 a, .int .i64 b] 59) := ⟨_, rfl⟩
      rw [← hW]
      have hbW : Below wr.heap.size wr W := by rw [hW]; exact (Below.refl _ _).alloc (Nat.le_refl _) _
      obtain ⟨c0, c1, c2⟩ : W.cell? ⟨wr.heap.size, 0, none⟩ = some (.int .i64 op) ∧ W.cell? ⟨wr.heap.size, 1, none⟩ = some (.int .i64 a) ∧ W.cell? ⟨wr.heap.size, 2, none⟩ = some (.int .i64 b) := by rw [hW]; exact allocC _ _ _ _ _
      have i1' := (hbW.cell (cell_lt i1)).trans i1
      have p0' := (hbW.cell (cell_lt p0)).trans p0
      have q0' := (hbW.cell (cell_lt q0)).trans q0
      have f0' := (hbW.frozen (cell_lt q0)).trans f0
      have hwW : Below w.heap.size w W := below_over hb hbW
      have HRW : Hid (IRow W w.heap.size 0 ((Lay.places l v).take (k + 1))) := hrw.out.on hbW
      have HRM : Hid (Room W w.heap.size (l.length + 1)) := hrm.out.on hbW
      have HSZ : Hid (w.heap.size < W.heap.size) := Nat.lt_of_lt_of_le hsz hbW.size
      clear hW hbW d0 d1 d2 i1 p0 q0 f0 hb hrw hrm hsz
      have hk4 : ((k : Int) + 1).toNat = k + 1 := by omega
      have hk5 : (0 : Int) ≤ (k : Int) + 1 := by omega
      have hk6 : ¬ (k : Int) + 1 < 0 := by omega
      have hwr : IntKind.i64.wrap ((k : Int) + 1) = (k : Int) + 1 := by simp [IntKind.wrap, IntKind.signed, IntKind.bits]; omega
      have hws1 : IntKind.i64.wrap (pk + Lay.bytesF op a) = pk + Lay.bytesF op a := by simp [IntKind.wrap, IntKind.signed, IntKind.bits]; omega
      have hws2 : IntKind.i64.wrap (pk + Lay.bytesF op a + n) = pk + Lay.bytesF op a + n := by simp [IntKind.wrap, IntKind.signed, IntKind.bits]; omega
      clear hk6
      go_region_with (go_at_call 71; refine (bytesOf op a b _).mono ?_; rintro e w1 ⟨rfl, hb1⟩; have i2 := (hb1.cell (cell_lt i1')).trans i1'; have p2 := (hb1.cell (cell_lt p0')).trans p0'; have q2 := (hb1.cell (cell_lt q0')).trans q0'; have f2 := (hb1.frozen (cell_lt q0')).trans f0')
      all_goals
        have hb1' : Below W.heap.size W w1 := below_over (Below.refl _ _).drew hb1
        have hw1 : Below w.heap.size w w1 := below_over hwW hb1'
        have HRW1 : Hid (IRow w1 w.heap.size 0 ((Lay.places l v).take (k + 1))) := HRW.out.on hb1'
        have HRM1 : Hid (Room w1 w.heap.size (l.length + 1)) := HRM.out.on hb1'
        have HSZ1 : Hid (w.heap.size < w1.heap.size) := Nat.lt_of_lt_of_le HSZ.out hb1'.size
        have HNEXT : Hid (IRow (w1.setCell ⟨w.heap.size, k + 1, none⟩ (.int .i64 (pk + Lay.bytesF op a + n))) w.heap.size 0 ((Lay.places l v).take (k + 1 + 1))) := by
          show IRow _ _ _ _
          rw [← HNX.out]
          exact place_next hlt HRM1.out HRW1.out
        clear hb1 hb1' i2 p2 q2 f2 HRW HRM HSZ i1' p0' q0' f0' c0 c1 c2 hws1 hws2 hwr
        go_wp2
        go_roundw
        case rel => exact ⟨k + 1, by omega, by go_num, HRM1.out.set _ _, HNEXT.out, by simpa using HSZ1.out, hw1.setCell (Nat.le_refl _) _⟩
        case measure => simp [intOf]; omega
    · have e : (Lay.places l v).take (k + 1) = Lay.places l v := List.take_of_length_le (by rw [HPL.out]; omega)
      have HE := hrw.out
      rw [e] at HE
      have HEE : Hid (IRow wr w.heap.size 0 (Lay.places l v)) := HE
      clear HE e
      go_wp2
      go_ret
      exact ⟨rfl, HEE.out, hrm.out, hsz, hb⟩
end St
end Go.Proofs.Ytnlanikjlokboaa
