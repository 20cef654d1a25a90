/- What is heard of a machine: numbers with blanks between, of any size. -/
import Derived.Test.YtkjoljcgbjodlaaDoorSh1
import Derived.Test.YtkjoljcgbjodlaaDoorMv3
namespace Go.Proofs.YtkjoljcgbjodlaaDoor
namespace Pg
open Go.ChangeShapes Go.WideShapes Go.ChangeAt Go.RowKit St

def I64 (x : Int) : Prop := -9223372036854775808 ≤ x ∧ x ≤ 9223372036854775807
theorem numsT_lenB : ∀ (k : Nat) (l : List Int), (∀ x ∈ l, I64 x) → k ≤ l.length → (numsT (l.take k)).length ≤ 22 * k := by
  intro k
  induction k with
  | zero => intro l _ _; simp [numsT, Lib.join, List.intercalate]
  | succ k ih =>
    intro l hb hk
    have hx := hb _ (List.getElem_mem (show k < l.length by omega))
    have hi := Lib.itoa_length_le l[k] hx.1 hx.2
    by_cases h0 : k = 0
    · subst h0
      rw [numsT_one (by omega)]; omega
    · rw [numsT_snoc (by omega) (by omega)]
      have := ih l hb (by omega)
      simp only [List.length_append, List.length_cons]; omega
def heardT (x : Mc) : List UInt8 := numsT x.said ++ (if x.fin = 0 then [] else 59 :: Lib.itoa x.fin ++ (if x.fin = 1 then 44 :: Lib.itoa x.code else []))

set_option maxHeartbeats 800000 in
theorem ints_atB {f : Bool} (B : Nat) (a : Option Addr) (cap : Nat) (l : List Int) (hl : l.length ≤ 1048576) (hbd : ∀ x ∈ l, I64 x) (w : World) (hr : SI f B w (.slice a l.length cap) l) :
    Calls Tryd.prog 17 #[.slice a l.length cap] w fun e w' => e = .returned (.string ⟨(numsT l).toArray⟩) ∧ Below w.heap.size w w' := by
  have HR : Hid (SI f B w (.slice a l.length cap) l) := hr
  have HA : Hid (∀ x ∈ l, I64 x) := hbd
  clear hr hbd
  go_enter Tryd.func17, Tryd.ntmps17
  go_wp2
  go_loopw [3, 4] (fun v i wr => ∃ (k : Nat) (s : ByteArray), k ≤ l.length ∧ i = .int .i64 k ∧ .string s = v ∧ Hid (s.data.toList = numsT (l.take k)) ∧ Below w.heap.size w wr) (fun _ i _ => l.length - (intOf i).toNat)
  case atStart => exact ⟨0, ⟨#[]⟩, Nat.zero_le _, rfl, rfl, rfl, Below.refl _ _⟩
  case round =>
    obtain ⟨k, s, hk, rfl, rfl, hs, hb⟩ := hrel
    have hsz : s.size ≤ 23068672 := by
      have h1 := numsT_lenB k l HA.out hk
      rw [← hs.out] at h1
      have e : s.data.toList.length = s.size := by simp
      omega
    by_cases hlt : k < l.length
    · obtain ⟨b, o, rfl, _, a0⟩ := (SI.on HR.out (Keep.of hb)).get hlt
      have h0 : wr.cell? ⟨b, o + k, none⟩ = some (.int .i64 l[k]) := by simpa [IntAt] using a0
      have hx := HA.out _ (List.getElem_mem hlt)
      have hx0 := hx.1
      have hx1 := hx.2
      have hal := Lib.itoa_length_le l[k] hx.1 hx.2
      have HS1 : Hid (0 < k → numsT (l.take (k + 1)) = numsT (l.take k) ++ 32 :: Lib.itoa l[k]) := numsT_snoc hlt
      have HS0 : Hid (k = 0 → numsT (l.take (k + 1)) = Lib.itoa l[k]) := by
        show k = 0 → _
        intro e; subst e; exact numsT_one hlt
      clear a0 hx
      generalize l[k] = x at *
      by_cases hk0 : k = 0
      · subst hk0
        rw [Nat.add_zero] at h0
        go_wp2_with fail
        refine (int_at x hx0 hx1 _).mono ?_
        rintro e w1 ⟨rfl, hb1⟩
        have hw1 : Below w.heap.size w w1 := below_over hb hb1
        clear hb1 h0
        go_wp2
        go_roundw
        case rel =>
          refine ⟨1, _, by omega, by go_num, rfl, ?_, hw1⟩
          show _ = _
          rw [HS0.out trivial]
          have e := hs.out
          rw [List.take_zero] at e
          simp [e, numsT, Lib.join]
        case measure => simp [intOf]; omega
      · have hk1 : (0 : Int) < (k : Int) := by omega
        go_wp2_with fail
        refine (int_at x hx0 hx1 _).mono ?_
        rintro e w1 ⟨rfl, hb1⟩
        have hw1 : Below w.heap.size w w1 := below_over hb hb1
        clear hb1 h0
        go_wp2
        go_roundw
        case rel =>
          refine ⟨k + 1, _, by omega, by go_num, rfl, ?_, hw1⟩
          show _ = _
          rw [HS1.out (by omega), ← hs.out]
          simp
        case measure => simp [intOf]; omega
    · have HN : Hid (s = ⟨(numsT l).toArray⟩) := by
        show s = _
        apply str_eq
        rw [hs.out, List.take_of_length_le (by omega)]
      go_wp2
      go_ret
      exact ⟨retS HN.out, hb⟩
set_option maxRecDepth 100000 in
set_option maxHeartbeats 1000000 in
theorem nums_atB {f : Bool} (B0 : Nat) (a : Option Addr) (cap : Nat) (l : List Int) (hl : l.length ≤ 1048576) (hbd : ∀ x ∈ l, I64 x) (B : Nat) (w : World) (hB : B ≤ w.heap.size) (hT : Tab B w) (hr : SI f B0 w (.slice a l.length cap) l) :
    Calls Tryd.prog 21 #[.slice a l.length cap] w fun e w' => e = .returned (.string ⟨(numsT l).toArray⟩) ∧ Below w.heap.size w w' := by
  obtain ⟨i0, hi, hz0, hz1, hz2⟩ := info_parts infoS
  have HR : Hid (SI f B0 w (.slice a l.length cap) l) := hr
  have HT : Hid (Tab B w) := hT
  have HB : Hid (B ≤ w.heap.size) := hB
  have HA : Hid (∀ x ∈ l, I64 x) := hbd
  clear hr hbd hT hB
  obtain ⟨ls, hls⟩ : ∃ ls : List (List UInt8), ls = l.map Lib.itoa := ⟨_, rfl⟩
  have hll : ls.length = l.length := by rw [hls, List.length_map]
  have HLS : Hid (ls = l.map Lib.itoa) := hls
  clear hls
  go_enter Tryd.func21, Tryd.ntmps21
  go_wp2_with (at_make; refine wpList_make_full _ rfl _ _ 58 rfl w.heap.size 9 i0 (.string ByteArray.empty) 1 Tryd.underlying58 hi hz0 hz1 .i64 .i64 _ _ l.length rfl rfl rfl rfl (by rw [hz2]; omega) (by unfold maxLen; omega) (Nat.le_refl _) ?_; intro w0 hown0 hgrow0)
  have hroom := room_own hown0 (Nat.le_refl _)
  rw [Nat.mul_one] at hroom
  have hsz0 : w.heap.size < w0.heap.size := made_lt hown0
  have hb0 : Below w.heap.size w w0 := (Below.refl _ _).grown hgrow0 (Nat.le_refl _) (fun _ h => by simp at h)
  clear hown0 hgrow0
  go_loopw [11] (fun i wr => ∃ k : Nat, k ≤ l.length ∧ i = .int .i64 k ∧ Hid (Room wr w.heap.size l.length) ∧ Hid (SRow wr w.heap.size 0 (ls.take k)) ∧ w.heap.size < wr.heap.size ∧ Below w.heap.size w wr) (fun i _ => l.length - (intOf i).toNat)
  case atStart => exact ⟨0, Nat.zero_le _, rfl, hroom, fun j x h => by simp at h, hsz0, hb0⟩
  case round =>
    obtain ⟨k, hk, rfl, hrm, hrw, hsz, hb⟩ := hrel
    by_cases hlt : k < l.length
    · obtain ⟨b, o, rfl, _, a0⟩ := (SI.on HR.out (Keep.of hb)).get hlt
      have h0 : wr.cell? ⟨b, o + k, none⟩ = some (.int .i64 l[k]) := by simpa [IntAt] using a0
      clear a0
      have hx := HA.out _ (List.getElem_mem hlt)
      have hx0 := hx.1
      have hx1 := hx.2
      clear hx
      have HLK : Hid (ls[k]? = some (Lib.itoa l[k])) := by
        show _ = _
        rw [HLS.out, List.getElem?_map, List.getElem?_eq_getElem hlt]; rfl
      generalize l[k] = x at *
      go_wp2_with fail
      refine (number_at x hx0 hx1 B _ (HT.out.on (hb.mono HB.out))).mono ?_
      rintro e w1 ⟨rfl, hb1⟩
      have hw1 : Below w.heap.size w w1 := below_over hb hb1
      have HRM : Hid (Room w1 w.heap.size l.length) := hrm.out.on hb1
      have hsz1 : w.heap.size < w1.heap.size := Nat.lt_of_lt_of_le hsz hb1.size
      obtain ⟨⟨x0, d0⟩, f0⟩ := HRM.out k hlt
      have HN : Hid (SRow (w1.setCell ⟨w.heap.size, k, none⟩ (.string ⟨(Lib.itoa x).toArray⟩)) w.heap.size 0 (ls.take (k + 1))) := by
        obtain ⟨hkl, hke⟩ := List.getElem?_eq_some_iff.1 HLK.out
        rw [← hke]
        exact srow_next hkl (by rw [hll]; exact HRM.out) (hrw.out.on hb1)
      clear hb1 hrm hrw hb h0
      go_wp2
      go_roundw
      case rel => exact ⟨k + 1, by omega, by go_num, HRM.out.set _ _, HN.out, by simpa using hsz1, hw1.setCell (Nat.le_refl _) _⟩
      case measure => simp [intOf]; omega
    · have e : ls.take k = ls := List.take_of_length_le (by omega)
      have HE := hrw.out
      rw [e] at HE
      have HL : Hid ((l.map fun x => (⟨(Lib.itoa x).toArray⟩ : ByteArray)).length = l.length) := by
        show _ = _
        rw [List.length_map]
      have HJ : Hid (∀ (j : Nat) x, (l.map fun x => (⟨(Lib.itoa x).toArray⟩ : ByteArray))[j]? = some x → wr.cell? ⟨w.heap.size, 0 + j, none⟩ = some (.string x)) := by
        show ∀ (j : Nat) x, _ → _
        intro j x hx
        rw [List.getElem?_map] at hx
        cases hlj : l[j]? with
        | none => rw [hlj] at hx; simp at hx
        | some y =>
          rw [hlj] at hx
          simp at hx
          subst hx
          exact HE j _ (by rw [HLS.out, List.getElem?_map, hlj]; rfl)
      have HLL : Hid ((Lib.join ((l.map fun x => (⟨(Lib.itoa x).toArray⟩ : ByteArray)).map (·.data.toList)) [32]).length ≤ 140737488355328) := by
        show _ ≤ _
        rw [nums_join]
        have := numsT_lenB l.length l HA.out (Nat.le_refl _)
        rw [List.take_of_length_le (Nat.le_refl _)] at this
        omega
      clear HE e hrw
      by_cases hl0 : l.length = 0
      · have hnil : l = [] := List.length_eq_zero_iff.1 hl0
        have HZ : Hid (numsT l = []) := by show _ = _; rw [hnil]; rfl
        have HL0 : Hid (l.length = 0) := hl0
        clear hnil hl0 HJ HLL HL
        go_wp2_with fail
        rw [HL0.out]
        refine (Tryd.strings_Join_none (some ⟨w.heap.size, 0, none⟩) 0 ⟨#[32]⟩ _).mono ?_
        rintro e w1 ⟨rfl, rfl⟩
        go_wp2_with fail
        go_ret
        exact ⟨retS (str_eq (by rw [HZ.out])), hb⟩
      have HL0 : Hid (¬ l.length = 0) := hl0
      have hlp : 0 < l.length := by omega
      clear hl0
      go_wp2_with fail
      have HC := Tryd.strings_Join w.heap.size 0 l.length (l.map fun x => (⟨(Lib.itoa x).toArray⟩ : ByteArray)) ⟨#[32]⟩ wr HJ.out hsz (by rw [HL.out]; omega) (by rw [HL.out]; omega) HLL.out
      rw [HL.out] at HC
      refine HC.mono ?_
      have e32 : (⟨#[32]⟩ : ByteArray).data.toList = [32] := rfl
      rw [e32, nums_join]
      rintro e w1 ⟨rfl, hb1⟩
      go_wp2_with fail
      go_ret
      exact ⟨rfl, below_over hb hb1⟩
theorem catS (p q : List UInt8) : (⟨p.toArray⟩ : ByteArray) ++ ⟨q.toArray⟩ = ⟨(p ++ q).toArray⟩ := str_eq (by simp)
set_option maxRecDepth 100000 in
set_option maxHeartbeats 2000000 in
theorem specHeard {f : Bool} (B : Nat) (x : Mc) (a1 a2 a3 : Option Addr) (c1 c2 c3 : Nat) (hs : x.said.length ≤ 1048576) (hi : (∀ y ∈ x.said, I64 y) ∧ I64 x.fin ∧ I64 x.code) (w : World) (hm : SI f B w (.slice a3 x.said.length c3) x.said) :
    Calls Tryd.prog 11 #[.agg #[.slice a1 x.heap.length c1, .slice a2 x.frames.length c2, .slice a3 x.said.length c3, .int .i64 x.fin, .int .i64 x.code]] w fun e w' => e = .returned (.string ⟨(heardT x).toArray⟩) ∧ Below w.heap.size w w' := by
  have HM : Hid (SI f B w (.slice a3 x.said.length c3) x.said) := hm
  have HI : Hid (∀ y ∈ x.said, I64 y) := hi.1
  have hf0 := hi.2.1.1
  have hf1 := hi.2.1.2
  have hc0 := hi.2.2.1
  have hc1 := hi.2.2.2
  have hln : (numsT x.said).length ≤ 23068672 := by
    have := numsT_lenB x.said.length x.said hi.1 (Nat.le_refl _)
    rw [List.take_of_length_le (Nat.le_refl _)] at this
    omega
  have hlf := Lib.itoa_length_le x.fin hf0 hf1
  have hlc := Lib.itoa_length_le x.code hc0 hc1
  clear hm hi
  go_enter Tryd.func11, Tryd.ntmps11
  go_wp2_with fail
  refine (ints_atB B a3 c3 x.said hs HI.out _ (SI.on HM.out (Keep.of (by go_grown)))).mono ?_
  rintro e w1 ⟨rfl, hb1⟩
  have hw1 : Below w.heap.size w w1 := below_over (by go_grown) hb1
  have A1 : Hid (Cells w1 w.heap.size [.slice a1 x.heap.length c1, .slice a2 x.frames.length c2, .slice a3 x.said.length c3, .int .i64 x.fin, .int .i64 x.code]) := (Cells.new w _ rfl _ _).on hb1
  have r3 := A1.out.g3.1
  clear hb1
  obtain ⟨S1, hS1⟩ : ∃ S : ByteArray, S = ⟨(numsT x.said).toArray⟩ := ⟨_, rfl⟩
  have hs1 : S1.size ≤ 23068672 := by rw [hS1]; show (numsT x.said).toArray.size ≤ _; simpa using hln
  rw [← hS1]
  have HS1 : Hid (S1 = ⟨(numsT x.said).toArray⟩) := hS1
  clear hS1
  by_cases h0 : x.fin = 0
  · have HE : Hid (heardT x = numsT x.said) := by show _ = _; simp [heardT, h0]
    have hz : (x.fin == 0) = true := by simp [h0]
    clear h0
    go_wp2
    go_ret
    exact ⟨retS (by rw [HE.out]; exact HS1.out), hw1⟩
  · have hz : (x.fin == 0) = false := by simp [h0]
    have HZ : Hid (¬ x.fin = 0) := h0
    clear h0
    go_wp2_with fail
    refine (int_at x.fin hf0 hf1 _).mono ?_
    rintro e w2 ⟨rfl, hb2⟩
    have hw2 : Below w.heap.size w w2 := below_over hw1 hb2
    have A2 : Hid (Cells w2 w.heap.size [.slice a1 x.heap.length c1, .slice a2 x.frames.length c2, .slice a3 x.said.length c3, .int .i64 x.fin, .int .i64 x.code]) := A1.out.on hb2
    have r32 := A2.out.g3.1
    have r42 := A2.out.g4.1
    clear hb2 r3
    obtain ⟨S2, hS2⟩ : ∃ S : ByteArray, S = ⟨(Lib.itoa x.fin).toArray⟩ := ⟨_, rfl⟩
    have hs2 : S2.size ≤ 21 := by rw [hS2]; show (Lib.itoa x.fin).toArray.size ≤ _; simpa using hlf
    rw [← hS2]
    have HS2 : Hid (S2 = ⟨(Lib.itoa x.fin).toArray⟩) := hS2
    clear hS2
    by_cases h1 : x.fin = 1
    · have HE : Hid (heardT x = numsT x.said ++ [59] ++ Lib.itoa x.fin ++ [44] ++ Lib.itoa x.code) := by
        show _ = _
        have := HZ.out
        simp only [heardT, if_neg this, if_pos h1]
        simp
      have h1b : (x.fin == 1) = true := by simp [h1]
      clear h1
      go_wp2_with fail
      refine (int_at x.code hc0 hc1 _).mono ?_
      rintro e w3 ⟨rfl, hb3⟩
      have hw3 : Below w.heap.size w w3 := below_over hw2 hb3
      clear hb3
      go_wp2
      go_ret
      refine ⟨retS ?_, hw3⟩
      apply str_eq
      rw [HE.out, HS1.out, HS2.out]
      simp
    · have HE : Hid (heardT x = numsT x.said ++ [59] ++ Lib.itoa x.fin) := by
        show _ = _
        have := HZ.out
        simp only [heardT, if_neg this, if_neg h1]
        simp
      have h1b : (x.fin == 1) = false := by simp [h1]
      clear h1
      go_wp2
      go_ret
      refine ⟨retS ?_, hw2⟩
      apply str_eq
      rw [HE.out, HS1.out, HS2.out]
      simp
set_option maxRecDepth 100000 in
set_option maxHeartbeats 2000000 in
theorem implHeard {f : Bool} (B : Nat) (x : Mc) (a1 a2 a3 : Option Addr) (c1 c2 c3 : Nat) (hs : x.said.length ≤ 1048576) (hi : (∀ y ∈ x.said, I64 y) ∧ I64 x.fin ∧ I64 x.code) (B1 : Nat) (w : World) (hB : B1 ≤ w.heap.size) (hT : Tab B1 w) (hm : SI f B w (.slice a3 x.said.length c3) x.said) :
    Calls Tryd.prog 13 #[.agg #[.slice a1 x.heap.length c1, .slice a2 x.frames.length c2, .slice a3 x.said.length c3, .int .i64 x.fin, .int .i64 x.code]] w fun e w' => e = .returned (.string ⟨(heardT x).toArray⟩) ∧ Below w.heap.size w w' := by
  have HM : Hid (SI f B w (.slice a3 x.said.length c3) x.said) := hm
  have HI : Hid (∀ y ∈ x.said, I64 y) := hi.1
  have hf0 := hi.2.1.1
  have hf1 := hi.2.1.2
  have hc0 := hi.2.2.1
  have hc1 := hi.2.2.2
  have hln : (numsT x.said).length ≤ 23068672 := by
    have := numsT_lenB x.said.length x.said hi.1 (Nat.le_refl _)
    rw [List.take_of_length_le (Nat.le_refl _)] at this
    omega
  have hlf := Lib.itoa_length_le x.fin hf0 hf1
  have hlc := Lib.itoa_length_le x.code hc0 hc1
  have HB : Hid (B1 ≤ w.heap.size) := hB
  have HT : Hid (Tab B1 w) := hT
  clear hm hi hB hT
  go_enter Tryd.func13, Tryd.ntmps13
  go_wp2_with fail
  refine (nums_atB B a3 c3 x.said hs HI.out B1 _ (Nat.le_trans HB.out (by simp)) (HT.out.on ((Below.refl _ _).alloc HB.out _)) (SI.on HM.out (Keep.of (by go_grown)))).mono ?_
  rintro e w1 ⟨rfl, hb1⟩
  have hw1 : Below w.heap.size w w1 := below_over (by go_grown) hb1
  have A1 : Hid (Cells w1 w.heap.size [.slice a1 x.heap.length c1, .slice a2 x.frames.length c2, .slice a3 x.said.length c3, .int .i64 x.fin, .int .i64 x.code]) := (Cells.new w _ rfl _ _).on hb1
  have r3 := A1.out.g3.1
  clear hb1
  obtain ⟨S1, hS1⟩ : ∃ S : ByteArray, S = ⟨(numsT x.said).toArray⟩ := ⟨_, rfl⟩
  have hs1 : S1.size ≤ 23068672 := by rw [hS1]; show (numsT x.said).toArray.size ≤ _; simpa using hln
  rw [← hS1]
  have HS1 : Hid (S1 = ⟨(numsT x.said).toArray⟩) := hS1
  clear hS1
  by_cases h0 : x.fin = 0
  · have HE : Hid (heardT x = numsT x.said) := by show _ = _; simp [heardT, h0]
    have hz : (x.fin != 0) = false := by simp [h0]
    have h1b : (x.fin == 1) = false := by rw [h0]; rfl
    clear h0
    go_wp2
    go_ret
    exact ⟨retS (by rw [HE.out]; exact HS1.out), hw1⟩
  · have hz : (x.fin != 0) = true := by simp [h0]
    have HZ : Hid (¬ x.fin = 0) := h0
    clear h0
    go_wp2_with fail
    refine (number_at x.fin hf0 hf1 B1 _ (HT.out.on (hw1.mono HB.out))).mono ?_
    rintro e w2 ⟨rfl, hb2⟩
    have hw2 : Below w.heap.size w w2 := below_over hw1 hb2
    have A2 : Hid (Cells w2 w.heap.size [.slice a1 x.heap.length c1, .slice a2 x.frames.length c2, .slice a3 x.said.length c3, .int .i64 x.fin, .int .i64 x.code]) := A1.out.on hb2
    have r32 := A2.out.g3.1
    have r42 := A2.out.g4.1
    clear hb2 r3
    obtain ⟨S2, hS2⟩ : ∃ S : ByteArray, S = ⟨(Lib.itoa x.fin).toArray⟩ := ⟨_, rfl⟩
    have hs2 : S2.size ≤ 21 := by rw [hS2]; show (Lib.itoa x.fin).toArray.size ≤ _; simpa using hlf
    rw [← hS2]
    have HS2 : Hid (S2 = ⟨(Lib.itoa x.fin).toArray⟩) := hS2
    clear hS2
    by_cases h1 : x.fin = 1
    · have HE : Hid (heardT x = numsT x.said ++ [59] ++ Lib.itoa x.fin ++ [44] ++ Lib.itoa x.code) := by
        show _ = _
        have := HZ.out
        simp only [heardT, if_neg this, if_pos h1]
        simp
      have h1b : (x.fin == 1) = true := by simp [h1]
      clear h1
      go_wp2_with fail
      refine (number_at x.code hc0 hc1 B1 _ (HT.out.on (hw2.mono HB.out))).mono ?_
      rintro e w3 ⟨rfl, hb3⟩
      have hw3 : Below w.heap.size w w3 := below_over hw2 hb3
      clear hb3
      go_wp2
      go_ret
      refine ⟨retS ?_, hw3⟩
      apply str_eq
      rw [HE.out, HS1.out, HS2.out]
      simp
    · have HE : Hid (heardT x = numsT x.said ++ [59] ++ Lib.itoa x.fin) := by
        show _ = _
        have := HZ.out
        simp only [heardT, if_neg this, if_neg h1]
        simp
      have h1b : (x.fin == 1) = false := by simp [h1]
      clear h1
      go_wp2
      go_ret
      refine ⟨retS ?_, hw2⟩
      apply str_eq
      rw [HE.out, HS1.out, HS2.out]
      simp
end Pg
end Go.Proofs.YtkjoljcgbjodlaaDoor
