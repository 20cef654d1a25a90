/- The contract of the program's numbers with blanks between. -/
import Derived.Test.YtbgbddahniacbaaGreatDoorJSh0
import Derived.Test.YtbgbddahniacbaaGreatDoorJPc0
import Derived.Laws.AppendOwnNone
namespace Go.Proofs.YtbgbddahniacbaaGreatDoor
namespace St
open Go.ChangeShapes Go.WideShapes Go.ChangeAt Go.RowKit

theorem srow_next {w : World} {g k : Nat} {l : List (List UInt8)} (hk : k < l.length) (hr : Room w g l.length) (h : SRow w g 0 (l.take k)) : SRow (w.setCell ⟨g, k, none⟩ (.string ⟨l[k].toArray⟩)) g 0 (l.take (k + 1)) := by
  intro j x hj
  rw [List.getElem?_take] at hj
  split at hj
  · rename_i hjk
    by_cases e : j = k
    · subst e
      rw [List.getElem?_eq_getElem hk] at hj
      injection hj with hj
      subst hj
      obtain ⟨⟨y, hy⟩, _⟩ := hr j hk
      rw [Nat.zero_add]
      exact World.cell?_setCell_same _ _ _ hy
    · have := h j x (by rw [List.getElem?_take, if_pos (by omega)]; exact hj)
      rw [Nat.zero_add] at this ⊢
      exact (World.cell?_setCell_other _ _ _ _ (by intro e2; exact e (congrArg Addr.off e2).symm)).trans this
  · simp at hj
theorem nums_join (l : List Int) : Lib.join ((l.map fun x => (⟨(Lib.itoa x).toArray⟩ : ByteArray)).map (·.data.toList)) [32] = numsT l := by
  unfold numsT
  rw [List.map_map]
  rfl

set_option maxRecDepth 100000 in
set_option maxHeartbeats 1000000 in
theorem nums_at (g cap : Nat) (l : List Int) (hl : l.length ≤ 1000) (hl0 : 0 < l.length) (hbd : ∀ x ∈ l, -2147483648 ≤ x ∧ x ≤ 2147483647) (B : Nat) (w : World) (hB : B ≤ w.heap.size) (hT : Tab B w) (hr : IRow w g 0 l) :
    Calls Tryz.prog 27 #[.slice (some ⟨g, 0, none⟩) l.length cap] w fun e w' => e = .returned (.string ⟨(numsT l).toArray⟩) ∧ Below w.heap.size w w' := by
  obtain ⟨i0, hi, hz0, hz1, hz2⟩ := info_parts infoS
  have HR : Hid (IRow w g 0 l) := hr
  have HT : Hid (Tab B w) := hT
  have HB : Hid (B ≤ w.heap.size) := hB
  have HA : Hid (∀ x ∈ l, -2147483648 ≤ x ∧ x ≤ 2147483647) := hbd
  clear hr hbd hT hB
  obtain ⟨ls, hls⟩ : ∃ ls : List (List UInt8), ls = l.map Lib.itoa := ⟨_, rfl⟩
  have hll : ls.length = l.length := by rw [hls, List.length_map]
  have HLS : Hid (ls = l.map Lib.itoa) := hls
  clear hls
  go_enter Tryz.func27, Tryz.ntmps27
  go_wp2_with (at_make; refine wpList_make_full _ rfl _ _ 46 rfl w.heap.size 9 i0 (.string ByteArray.empty) 1 Tryz.underlying46 hi hz0 hz1 .i64 .i64 _ _ l.length rfl rfl rfl rfl (by rw [hz2]; omega) (by unfold maxLen; omega) (Nat.le_refl _) ?_; intro w0 hown0 hgrow0)
  have hroom := room_own hown0 (Nat.le_refl _)
  rw [Nat.mul_one] at hroom
  have hsz0 : w.heap.size < w0.heap.size := made_lt hown0
  have hb0 : Below w.heap.size w w0 := (Below.refl _ _).grown hgrow0 (Nat.le_refl _) (fun _ h => by simp at h)
  clear hown0 hgrow0
  go_loopw [11] (fun i wr => ∃ k : Nat, k ≤ l.length ∧ i = .int .i64 k ∧ Hid (Room wr w.heap.size l.length) ∧ Hid (SRow wr w.heap.size 0 (ls.take k)) ∧ w.heap.size < wr.heap.size ∧ Below w.heap.size w wr) (fun i _ => l.length - (intOf i).toNat)
  case atStart => exact ⟨0, Nat.zero_le _, rfl, hroom, fun j x h => by simp at h, hsz0, hb0⟩
  case round =>
    obtain ⟨k, hk, rfl, hrm, hrw, hsz, hb⟩ := hrel
    by_cases hlt : k < l.length
    · have h0 := HR.out.on hb k _ (List.getElem?_eq_getElem hlt)
      have hx := HA.out _ (List.getElem_mem hlt)
      have HLK : Hid (ls[k]? = some (Lib.itoa l[k])) := by
        show _ = _
        rw [HLS.out, List.getElem?_map, List.getElem?_eq_getElem hlt]; rfl
      generalize l[k] = x at *
      simp only [Nat.zero_add] at h0
      go_wp2_with fail
      refine (number_at x (by omega) (by omega) B _ (HT.out.on (hb.mono HB.out))).mono ?_
      rintro e w1 ⟨rfl, hb1⟩
      have hw1 : Below w.heap.size w w1 := below_over hb hb1
      have HRM : Hid (Room w1 w.heap.size l.length) := hrm.out.on hb1
      have hsz1 : w.heap.size < w1.heap.size := Nat.lt_of_lt_of_le hsz hb1.size
      obtain ⟨⟨x0, d0⟩, f0⟩ := HRM.out k hlt
      have HN : Hid (SRow (w1.setCell ⟨w.heap.size, k, none⟩ (.string ⟨(Lib.itoa x).toArray⟩)) w.heap.size 0 (ls.take (k + 1))) := by
        obtain ⟨hkl, hke⟩ := List.getElem?_eq_some_iff.1 HLK.out
        rw [← hke]
        exact srow_next hkl (by rw [hll]; exact HRM.out) (hrw.out.on hb1)
      clear hb1 hrm hrw hb h0
      go_wp2
      go_roundw
      case rel => exact ⟨k + 1, by omega, by go_num, HRM.out.set _ _, HN.out, by simpa using hsz1, hw1.setCell (Nat.le_refl _) _⟩
      case measure => simp [intOf]; omega
    · have e : ls.take k = ls := List.take_of_length_le (by omega)
      have HE := hrw.out
      rw [e] at HE
      have HL : Hid ((l.map fun x => (⟨(Lib.itoa x).toArray⟩ : ByteArray)).length = l.length) := by
        show _ = _
        rw [List.length_map]
      have HJ : Hid (∀ (j : Nat) x, (l.map fun x => (⟨(Lib.itoa x).toArray⟩ : ByteArray))[j]? = some x → wr.cell? ⟨w.heap.size, 0 + j, none⟩ = some (.string x)) := by
        show ∀ (j : Nat) x, _ → _
        intro j x hx
        rw [List.getElem?_map] at hx
        cases hlj : l[j]? with
        | none => rw [hlj] at hx; simp at hx
        | some y =>
          rw [hlj] at hx
          simp at hx
          subst hx
          exact HE j _ (by rw [HLS.out, List.getElem?_map, hlj]; rfl)
      have HLL : Hid ((Lib.join ((l.map fun x => (⟨(Lib.itoa x).toArray⟩ : ByteArray)).map (·.data.toList)) [32]).length ≤ 140737488355328) := by
        show _ ≤ _
        rw [nums_join]
        have := numsT_len l.length l HA.out (Nat.le_refl _)
        rw [List.take_of_length_le (Nat.le_refl _)] at this
        omega
      clear HE e hrw
      go_wp2_with fail
      have HC := Tryz.strings_Join w.heap.size 0 l.length (l.map fun x => (⟨(Lib.itoa x).toArray⟩ : ByteArray)) ⟨#[32]⟩ wr HJ.out hsz (by rw [HL.out]; omega) (by rw [HL.out]; omega) HLL.out
      rw [HL.out] at HC
      refine HC.mono ?_
      have e32 : (⟨#[32]⟩ : ByteArray).data.toList = [32] := rfl
      rw [e32, nums_join]
      rintro e w1 ⟨rfl, hb1⟩
      go_wp2_with fail
      go_ret
      exact ⟨rfl, below_over hb hb1⟩
end St
end Go.Proofs.YtbgbddahniacbaaGreatDoor

/- Appends onto a list of numbers of one's own, as a law of the walk; what they keep. -/
namespace Go.Proofs.YtbgbddahniacbaaGreatDoor
namespace Pg
open Go.ChangeShapes Go.WideShapes Go.ChangeAt Go.RowKit St

end Pg
end Go.Proofs.YtbgbddahniacbaaGreatDoor
