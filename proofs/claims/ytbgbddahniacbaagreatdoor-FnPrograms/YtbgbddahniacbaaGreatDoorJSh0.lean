/- The contract of the program's showing of code. -/
import Derived.Test.YtbgbddahniacbaaGreatDoorJCode0
import Derived.Test.YtbgbddahniacbaaGreatDoorJSp1
import Derived.Test.YtbgbddahniacbaaGreatDoorJIRow0
namespace Go.Proofs.YtbgbddahniacbaaGreatDoor
namespace St
open Go.ChangeShapes Go.WideShapes Go.ChangeAt Go.RowKit

theorem owns_on {u v : World} {B n : Nat} {e : TypeId} {x : Value} {xs : List Value} {q : Nat} (h : u.ownsRow B e q x n xs) (hb : Below u.heap.size u v) : v.ownsRow B e q x n xs :=
  h.kept (row := none) ⟨hb.os, hb.tape, hb.output, hb.size, fun k hk _ => hb.block k hk⟩ (by
    cases hx : x.ownBlock with
    | none => exact Or.inl rfl
    | some g => exact Or.inr (by simp))

/-- The texts of the first k steps. -/
def shs (l : List Tx.Ins) (k : Nat) : List Value := strs ((l.take k).map Tx.showT)
theorem strs_join (l : List Tx.Ins) : Lib.join ((l.map fun x => (⟨(Tx.showT x).toArray⟩ : ByteArray)).map (·.data.toList)) [32] = Tx.showC l := by
  unfold Tx.showC
  rw [List.map_map]
  rfl

set_option maxRecDepth 100000 in
set_option maxHeartbeats 1000000 in
theorem implShowC (g cap : Nat) (l : List Tx.Ins) (hl : l.length ≤ 1048576) (B : Nat) (w : World) (hB : B ≤ w.heap.size) (hT : Tab B w) (hr : Row w g 0 l) (hbd : ∀ x ∈ l, (-9223372036854775808 ≤ x.2.1 ∧ x.2.1 ≤ 9223372036854775807) ∧ -9223372036854775808 ≤ x.2.2 ∧ x.2.2 ≤ 9223372036854775807) :
    Calls Tryz.prog 29 #[.slice (some ⟨g, 0, none⟩) l.length cap] w fun e w' => e = .returned (.string ⟨(Tx.shownC l).toArray⟩) ∧ Below w.heap.size w w' := by
  have HR : Hid (Row w g 0 l) := hr
  have HT : Hid (Tab B w) := hT
  have HB : Hid (B ≤ w.heap.size) := hB
  have HD : Hid (∀ x ∈ l, (-9223372036854775808 ≤ x.2.1 ∧ x.2.1 ≤ 9223372036854775807) ∧ -9223372036854775808 ≤ x.2.2 ∧ x.2.2 ≤ 9223372036854775807) := hbd
  clear hr hT hB hbd
  obtain ⟨i0, hi, hz0, hz1, hz2⟩ := info_parts infoS
  by_cases hbig : (40 : Int) < (l.length : Int)
  · have HN : Hid (Tx.shownC l = []) := by
      show Tx.shownC l = []
      have : Tx.okC l = false := by unfold Tx.okC; simp; omega
      simp [Tx.shownC, this]
    go_enter Tryz.func29, Tryz.ntmps29
    go_wp2
    go_ret
    exact ⟨by rw [HN.out]; rfl, Below.refl _ _⟩
  · have h40 : l.length ≤ 40 := by omega
    go_enter Tryz.func29, Tryz.ntmps29
    go_wp2
    go_loopw [3, 11] (fun v i wr => ∃ (k : Nat) (v0 : Value), k ≤ l.length ∧ i = .int .i64 k ∧ v0 = v ∧ Hid (wr.ownsRow w.heap.size 9 1 v0 k (shs l k)) ∧ Hid ((l.take k).all Tx.okT = true) ∧ Below w.heap.size w wr) (fun _ i _ => l.length - (intOf i).toNat)
    case atStart => exact ⟨0, _, Nat.zero_le _, rfl, rfl, World.ownsRow_nil _ _ _ _, rfl, Below.refl _ _⟩
    case round =>
      obtain ⟨k, v, hk, rfl, rfl, hown, hall, hb⟩ := hrel
      by_cases hlt : k < l.length
      · obtain ⟨h0, h1, h2⟩ := HR.out.below hb (cell_lt (HR.out k _ (List.getElem?_eq_getElem hlt)).1) k _ (List.getElem?_eq_getElem hlt)
        have hxb := HD.out _ (List.getElem_mem hlt)
        have HM : Hid (shs l (k + 1) = shs l k ++ [.string ⟨(Tx.showT l[k]).toArray⟩]) := by
          show shs l (k + 1) = _
          unfold shs
          rw [List.take_succ_eq_append_getElem hlt, List.map_append, List.map_singleton]
          simp [strs]
        have HA1 : Hid (Tx.okT l[k] = true → (l.take (k + 1)).all Tx.okT = true) := fun h => all_take hlt hall.out h
        have HA0 : Hid (Tx.okT l[k] = false → Tx.shownC l = []) := by
          show _ → _
          intro h
          have h2 : l.all Tx.okT = false := by
            cases hh : l.all Tx.okT
            · rfl
            · have := List.all_eq_true.1 hh _ (List.getElem_mem hlt)
              rw [this] at h; simp at h
          simp [Tx.shownC, Tx.okC, h2]
        generalize l[k] = x at *
        obtain ⟨op, a, b⟩ := x
        simp only [Nat.zero_add] at h0 h1 h2
        go_wp2_with fail
        refine (implOk op a b _).mono ?_
        rintro e w1 ⟨rfl, hb1⟩
        have hw1 : Below w.heap.size w w1 := below_over (hb.alloc hb.size _) hb1
        have BX := (Box.new wr (.int .i64 op) (.int .i64 a) (.int .i64 b) 73).on hb1
        have HO1 : Hid (w1.ownsRow w.heap.size 9 1 v k (shs l k)) := owns_on (hown.out.alloc _) hb1
        clear hb1 h0 h1 h2
        obtain ⟨c0, c1, c2, _, _, _⟩ := BX
        cases hok : Tx.okI op a b
        · have HN : Hid (Tx.shownC l = []) := HA0.out hok
          go_wp2
          go_ret
          exact ⟨by rw [HN.out]; rfl, hw1⟩
        · have HK : Hid ((l.take (k + 1)).all Tx.okT = true) := HA1.out hok
          have HS : Hid (Tx.shownI op a b = Tx.showI op a b) := by
            show Tx.shownI op a b = _
            simp [Tx.shownI, hok]
          go_wp2_with fail
          refine (implShow op a b hxb.1.1 hxb.1.2 hxb.2.1 hxb.2.2 B _ (Nat.le_trans HB.out hw1.size) (HT.out.on (hw1.mono HB.out))).mono ?_
          rw [HS.out]
          rintro e w2 ⟨rfl, hb2⟩
          have hw2 : Below w.heap.size w w2 := below_over hw1 hb2
          have HO2 : Hid (w2.ownsRow w.heap.size 9 1 v k (shs l k)) := owns_on HO1.out hb2
          clear hb2 hw1 HO1 c0 c1 c2 hb
          go_wp2_with (at_builtin; refine wpList_append_own _ rfl _ _ 46 rfl w.heap.size 9 i0 (.string ByteArray.empty) 1 16 Tryz.underlying46 hi hz0 hz1 hz2 rfl (by decide) _ _ _ rfl (HO2.out.alloc _) ⟨w2.heap.size, 0, none⟩ 1 1 [.string ⟨(Tx.showI op a b).toArray⟩] rfl rfl ?c1 ?c2 ?c3 ?c4 ?c5 ?_)
          case c1 =>
            intro j u hj
            match j, hj with
            | 0, hj => simp at hj; subst hj; simp [Addr.add]
          case c2 => intro u hu; simp at hu; subst hu; rfl
          case c3 => unfold maxLen; omega
          case c4 => omega
          case c5 => have := hw2.size; simp; omega
          intro v' w3 hown' hgrow _
          have hb3 : Below w.heap.size w w3 := (hw2.alloc hw2.size _).grown hgrow (by have := hw2.size; simp; omega) (fun g hg => (HO2.out.lt g hg).1)
          have HW : Hid (w3.ownsRow w.heap.size 9 1 v' (k + 1) (shs l k ++ [.string ⟨(Tx.showI op a b).toArray⟩])) := hown'
          clear hown' hgrow HO2
          go_wp2
          go_roundw
          case rel =>
            refine ⟨k + 1, v', by omega, by go_num, rfl, ?_, HK.out, hb3⟩
            show w3.ownsRow _ _ _ _ _ _
            rw [HM.out]
            exact HW.out
          case measure => simp [intOf]; omega
      · have hke : l.take k = l := List.take_of_length_le (by omega)
        have hkl : k = l.length := by omega
        have hok : Tx.okC l = true := by
          have := hall.out
          rw [hke] at this
          unfold Tx.okC; rw [this]; simp; omega
        have HS : Hid (Tx.shownC l = Tx.showC l) := by
          show Tx.shownC l = _
          simp [Tx.shownC, hok]
        have hlen := showC_len l (by unfold Tx.okC at hok; simp only [Bool.and_eq_true] at hok; exact hok.2)
        have ho := hown.out
        rw [hkl] at ho
        by_cases hl0 : l.length = 0
        · have hnil : l = [] := List.length_eq_zero_iff.1 hl0
          have HE : Hid (Tx.showC l = []) := by
            show Tx.showC l = []
            rw [hnil]; rfl
          obtain ⟨a, c, hv⟩ : ∃ a c, v = .slice a 0 c := by
            obtain ⟨_, ⟨rfl, _⟩ | ⟨g', cap', cur, rfl, _⟩⟩ := ho
            · exact ⟨none, 0, rfl⟩
            · exact ⟨_, _, by rw [hl0]⟩
          subst hv
          clear ho hown hall hlen hnil hke hok
          go_wp2_with fail
          refine (Tryz.strings_Join_none a c ⟨#[32]⟩ _).mono ?_
          rintro e w1 ⟨rfl, rfl⟩
          go_wp2_with fail
          go_ret
          exact ⟨by rw [HS.out, HE.out]; rfl, hb⟩
        · obtain ⟨g', cap', hv, hBg, hg', hcap', hcells⟩ := owned ho (by omega)
          subst hv
          have HJ : Hid (∀ (j : Nat) x, (l.map fun x => (⟨(Tx.showT x).toArray⟩ : ByteArray))[j]? = some x → wr.cell? ⟨g', 0 + j, none⟩ = some (.string x)) := by
            show ∀ (j : Nat) x, _ → _
            intro j x hx
            rw [Nat.zero_add]
            apply hcells
            rw [List.getElem?_map] at hx
            unfold shs strs
            rw [List.take_of_length_le (Nat.le_refl _), List.map_map, List.getElem?_map]
            cases hlj : l[j]? with
            | none => rw [hlj] at hx; simp at hx
            | some y => rw [hlj] at hx; simp at hx; subst hx; rfl
          have HL : Hid ((l.map fun x => (⟨(Tx.showT x).toArray⟩ : ByteArray)).length = l.length) := by
            show _ = _
            rw [List.length_map]
          have HLL : Hid ((Lib.join ((l.map fun x => (⟨(Tx.showT x).toArray⟩ : ByteArray)).map (·.data.toList)) [32]).length ≤ 140737488355328) := by
            show _ ≤ _
            rw [strs_join]; omega
          clear ho hown hall hlen hke hok hcells
          go_wp2_with fail
          have HC := Tryz.strings_Join g' 0 cap' (l.map fun x => (⟨(Tx.showT x).toArray⟩ : ByteArray)) ⟨#[32]⟩ wr HJ.out hg' (by rw [HL.out]; omega) (by rw [HL.out]; omega) HLL.out
          rw [HL.out] at HC
          refine HC.mono ?_
          have e32 : (⟨#[32]⟩ : ByteArray).data.toList = [32] := rfl
          rw [e32, strs_join]
          rintro e w1 ⟨rfl, hb1⟩
          go_wp2_with fail
          go_ret
          exact ⟨by rw [HS.out]; rfl, below_over hb hb1⟩
end St
end Go.Proofs.YtbgbddahniacbaaGreatDoor

/- Numbers with blanks between, as both sides show them; lines. -/
namespace Go.Proofs.YtbgbddahniacbaaGreatDoor
namespace St
open Go.ChangeShapes Go.WideShapes Go.ChangeAt Go.RowKit

def numsT (l : List Int) : List UInt8 := Lib.join (l.map Lib.itoa) [32]
theorem numsT_snoc {l : List Int} {k : Nat} (hk : k < l.length) (h0 : 0 < k) : numsT (l.take (k + 1)) = numsT (l.take k) ++ 32 :: Lib.itoa l[k] := by
  unfold numsT
  rw [List.take_succ_eq_append_getElem hk, List.map_append, List.map_singleton, join_snoc _ _ (by
    intro e
    have := congrArg List.length e
    rw [List.length_map, List.length_take, List.length_nil] at this
    omega)]
theorem numsT_one {l : List Int} (hk : 0 < l.length) : numsT (l.take 1) = Lib.itoa l[0] := by
  unfold numsT
  rw [List.take_succ_eq_append_getElem hk]
  simp [Lib.join, List.intercalate]
theorem numsT_len : ∀ (k : Nat) (l : List Int), (∀ x ∈ l, -2147483648 ≤ x ∧ x ≤ 2147483647) → k ≤ l.length → (numsT (l.take k)).length ≤ 12 * k := by
  intro k
  induction k with
  | zero => intro l _ _; simp [numsT, Lib.join, List.intercalate]
  | succ k ih =>
    intro l hb hk
    have hx := hb _ (List.getElem_mem (show k < l.length by omega))
    have hi := Tx.itoa_len l[k] hx.1 hx.2
    by_cases h0 : k = 0
    · subst h0
      rw [numsT_one (by omega)]; omega
    · rw [numsT_snoc (by omega) (by omega)]
      have := ih l hb (by omega)
      simp only [List.length_append, List.length_cons]; omega

set_option maxHeartbeats 800000 in
theorem ints_at (g cap : Nat) (l : List Int) (hl : l.length ≤ 1000) (hbd : ∀ x ∈ l, -2147483648 ≤ x ∧ x ≤ 2147483647) (w : World) (hr : IRow w g 0 l) :
    Calls Tryz.prog 36 #[.slice (some ⟨g, 0, none⟩) l.length cap] w fun e w' => e = .returned (.string ⟨(numsT l).toArray⟩) ∧ Below w.heap.size w w' := by
  have HR : Hid (IRow w g 0 l) := hr
  have HA : Hid (∀ x ∈ l, -2147483648 ≤ x ∧ x ≤ 2147483647) := hbd
  clear hr hbd
  go_enter Tryz.func36, Tryz.ntmps36
  go_wp2
  go_loopw [3, 4] (fun v i wr => ∃ (k : Nat) (s : ByteArray), k ≤ l.length ∧ i = .int .i64 k ∧ .string s = v ∧ Hid (s.data.toList = numsT (l.take k)) ∧ Below w.heap.size w wr) (fun _ i _ => l.length - (intOf i).toNat)
  case atStart => exact ⟨0, ⟨#[]⟩, Nat.zero_le _, rfl, rfl, rfl, Below.refl _ _⟩
  case round =>
    obtain ⟨k, s, hk, rfl, rfl, hs, hb⟩ := hrel
    have hsz : s.size ≤ 12000 := by
      have h1 := numsT_len k l HA.out hk
      rw [← hs.out] at h1
      have e : s.data.toList.length = s.size := by simp
      omega
    by_cases hlt : k < l.length
    · have h0 := HR.out.on hb k _ (List.getElem?_eq_getElem hlt)
      have hx := HA.out _ (List.getElem_mem hlt)
      have hal := Tx.itoa_len l[k] hx.1 hx.2
      have HS1 : Hid (0 < k → numsT (l.take (k + 1)) = numsT (l.take k) ++ 32 :: Lib.itoa l[k]) := numsT_snoc hlt
      have HS0 : Hid (k = 0 → numsT (l.take (k + 1)) = Lib.itoa l[k]) := by
        show k = 0 → _
        intro e; subst e; exact numsT_one hlt
      generalize l[k] = x at *
      simp only [Nat.zero_add] at h0
      by_cases hk0 : k = 0
      · subst hk0
        go_wp2_with fail
        refine (int_at x (by omega) (by omega) _).mono ?_
        rintro e w1 ⟨rfl, hb1⟩
        have hw1 : Below w.heap.size w w1 := below_over hb hb1
        clear hb1 h0
        go_wp2
        go_roundw
        case rel =>
          refine ⟨1, _, by omega, by go_num, rfl, ?_, hw1⟩
          show _ = _
          rw [HS0.out trivial]
          have e := hs.out
          rw [List.take_zero] at e
          simp [e, numsT, Lib.join]
        case measure => simp [intOf]; omega
      · have hk1 : (0 : Int) < (k : Int) := by omega
        go_wp2_with fail
        refine (int_at x (by omega) (by omega) _).mono ?_
        rintro e w1 ⟨rfl, hb1⟩
        have hw1 : Below w.heap.size w w1 := below_over hb hb1
        clear hb1 h0
        go_wp2
        go_roundw
        case rel =>
          refine ⟨k + 1, _, by omega, by go_num, rfl, ?_, hw1⟩
          show _ = _
          rw [HS1.out (by omega), ← hs.out]
          simp
        case measure => simp [intOf]; omega
    · have HN : Hid (s = ⟨(numsT l).toArray⟩) := by
        show s = _
        apply str_eq
        rw [hs.out, List.take_of_length_le (by omega)]
      go_wp2
      go_ret
      exact ⟨retS HN.out, hb⟩

/-- Strings in a row. -/
def SRow (w : World) (g o : Nat) (ls : List (List UInt8)) : Prop := ∀ j x, ls[j]? = some x → w.cell? ⟨g, o + j, none⟩ = some (.string ⟨x.toArray⟩)
theorem SRow.on {u v : World} {g o : Nat} {l : List (List UInt8)} (h : SRow u g o l) (hb : Below u.heap.size u v) : SRow v g o l := fun j x hj => (hb.cell (cell_lt (h j x hj))).trans (h j x hj)
def textL (ls : List (List UInt8)) : List UInt8 := ls.flatMap fun x => x ++ [10]
theorem textL_snoc {l : List (List UInt8)} {k : Nat} (hk : k < l.length) : textL (l.take (k + 1)) = textL (l.take k) ++ (l[k] ++ [10]) := by
  unfold textL
  rw [List.take_succ_eq_append_getElem hk, List.flatMap_append]
  simp
theorem textL_len : ∀ (k : Nat) (l : List (List UInt8)), (∀ x ∈ l, x.length ≤ 1000) → k ≤ l.length → (textL (l.take k)).length ≤ 1001 * k := by
  intro k
  induction k with
  | zero => intro l _ _; simp [textL]
  | succ k ih =>
    intro l hb hk
    have hx := hb _ (List.getElem_mem (show k < l.length by omega))
    rw [textL_snoc (by omega)]
    have := ih l hb (by omega)
    simp only [List.length_append, List.length_cons, List.length_nil]; omega

set_option maxHeartbeats 800000 in
theorem lines_at (g cap : Nat) (l : List (List UInt8)) (hl : l.length ≤ 1000) (hbd : ∀ x ∈ l, x.length ≤ 1000) (w : World) (hr : SRow w g 0 l) :
    Calls Tryz.prog 30 #[.slice (some ⟨g, 0, none⟩) l.length cap] w fun e w' => e = .returned (.string ⟨(textL l).toArray⟩) ∧ Below w.heap.size w w' := by
  have HR : Hid (SRow w g 0 l) := hr
  have HA : Hid (∀ x ∈ l, x.length ≤ 1000) := hbd
  clear hr hbd
  go_enter Tryz.func30, Tryz.ntmps30
  go_wp2
  go_loopw [3, 8] (fun v i wr => ∃ (k : Nat) (s : ByteArray), k ≤ l.length ∧ i = .int .i64 k ∧ .string s = v ∧ Hid (s.data.toList = textL (l.take k)) ∧ Below w.heap.size w wr) (fun _ i _ => l.length - (intOf i).toNat)
  case atStart => exact ⟨0, ⟨#[]⟩, Nat.zero_le _, rfl, rfl, rfl, Below.refl _ _⟩
  case round =>
    obtain ⟨k, s, hk, rfl, rfl, hs, hb⟩ := hrel
    have hsz : s.size ≤ 1001000 := by
      have h1 := textL_len k l HA.out hk
      rw [← hs.out] at h1
      have e : s.data.toList.length = s.size := by simp
      omega
    by_cases hlt : k < l.length
    · have h0 := HR.out.on hb k _ (List.getElem?_eq_getElem hlt)
      have hal := HA.out _ (List.getElem_mem hlt)
      have HS1 : Hid (textL (l.take (k + 1)) = textL (l.take k) ++ (l[k] ++ [10])) := textL_snoc hlt
      generalize l[k] = x at *
      simp only [Nat.zero_add] at h0
      go_wp2
      go_roundw
      case rel =>
        refine ⟨k + 1, _, by omega, by go_num, rfl, ?_, hb⟩
        show _ = _
        rw [HS1.out, ← hs.out]
        simp
      case measure => simp [intOf]; omega
    · have HN : Hid (s = ⟨(textL l).toArray⟩) := by
        show s = _
        apply str_eq
        rw [hs.out, List.take_of_length_le (by omega)]
      go_wp2
      go_ret
      exact ⟨retS HN.out, hb⟩
end St
end Go.Proofs.YtbgbddahniacbaaGreatDoor
