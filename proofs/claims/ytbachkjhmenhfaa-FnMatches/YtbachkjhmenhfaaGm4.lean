/- Contract of the program's Matches. -/
import Derived.Test.YtbachkjhmenhfaaGm3
namespace Go.Proofs.Ytbachkjhmenhfaa
namespace Pg
open Go.ChangeShapes Go.WideShapes Go.ChangeAt Go.RowKit St
attribute [local go_sem] as_many as_one as_itself as_row

set_option maxHeartbeats 1000000 in
theorem endsOf_row (P : List UInt8) (hP : P.length ≤ 60) (v : Value) (s : ByteArray) (hs : s.size ≤ 60) (w : World) (h : PRow w v P) :
    Calls Try.prog 39 #[.iface 58 v, .string s, plV fun j => decide (j = 0)] w fun e w' => e = .returned (plV fun k => decide (leastM P ≤ s.size) && setM P s.data.toList k) ∧ Below w.heap.size w w' := by
  obtain ⟨T, hT⟩ : ∃ T, T = s.data.toList := ⟨_, rfl⟩
  have HT : Hid (T = s.data.toList) := hT
  rw [← hT]
  clear hT
  have HP : Hid (PRow w v P) := h
  have hm := Nat.le_trans (leastM_len P) hP
  clear h
  go_enter Try.func39, Try.ntmps39
  go_wp2_with fail
  refine (leastOf_row P hP v _ HP.out).mono ?_
  rintro e w1 ⟨rfl, hb1⟩
  obtain ⟨m, hM⟩ : ∃ m, m = leastM P := ⟨_, rfl⟩
  rw [← hM] at hm ⊢
  have HM : Hid (m = leastM P) := hM
  clear hM
  unfold plV
  go_wp2
  go_loopw [7, 15] (fun v i wr => ∃ (k x : Nat), v = .int .u64 (x : Int) ∧ i = .int .i64 (k : Int) ∧ (k : Int) ≤ s.size + 1 ∧ Hid ((k = 0 ∧ x = 0) ∨ (0 < k ∧ m ≤ s.size ∧ x = bn (setM P T) 61)) ∧ Below w.heap.size w wr) (fun _ i _ => s.size + 1 - (intOf i).toNat)
  case atStart => exact ⟨0, 0, rfl, rfl, by omega, .inl ⟨rfl, rfl⟩, hb1⟩
  case round =>
    clear hb1
    obtain ⟨k, x, rfl, rfl, hk, hx, hb⟩ := hrel
    by_cases hlt : (k : Int) < (s.size : Int) + 1 - (m : Int)
    · go_wp2_with fail
      refine (hasP_at (fun j => decide (j = 0)) k (by omega) _).mono ?_
      rintro e w2 ⟨rfl, rfl⟩
      by_cases h0 : k = 0
      · subst h0
        have hx0 : x = 0 := by
          rcases hx.out with ⟨_, h⟩ | ⟨h, _⟩
          · exact h
          · omega
        subst hx0
        clear hx
        go_wp2_with fail
        refine (rowEnds P v s hs _ (HP.out.on hb) hP).mono ?_
        rintro e w3 ⟨rfl, hb3⟩
        have hb4 := below_over hb hb3
        clear hb3
        rw [← HT.out]
        unfold plV
        have HO : Hid (bits .or .u64 0 (bn (setM P T) 61 : Int) = (bn (setM P T) 61 : Int)) := by
          have := orU 0 _ (by decide) (bn_lt63 (setM P T))
          rw [Nat.zero_or] at this
          exact this
        obtain ⟨y, hy⟩ : ∃ y, y = bn (setM P T) 61 := ⟨_, rfl⟩
        rw [← hy] at HO ⊢
        have HY : Hid (y = bn (setM P T) 61) := hy
        clear hy
        go_wp2
        go_roundw
        case rel => exact ⟨1, y, by rw [HO.out], by go_num, by omega, .inr ⟨by omega, by omega, HY.out⟩, hb4⟩
        case measure => simp [intOf]
      · have HK : Hid ((k + 1 = 0 ∧ x = 0) ∨ (0 < k + 1 ∧ m ≤ s.size ∧ x = bn (setM P T) 61)) := by
          rcases hx.out with ⟨h, _⟩ | ⟨_, h⟩
          · exact absurd h h0
          · exact .inr ⟨by omega, h⟩
        clear hx
        go_wp2
        go_roundw
        case rel => exact ⟨k + 1, x, rfl, by go_num, by omega, HK.out, hb⟩
        case measure => simp [intOf]; omega
    · have HE : Hid (x = bn (fun k => decide (m ≤ s.size) && setM P T k) 61) := by
        show _ = _
        by_cases hms : m ≤ s.size
        · rcases hx.out with ⟨h, _⟩ | ⟨_, _, h⟩
          · subst h; omega
          · rw [h]; exact bn_congr fun j _ => by simp [hms]
        · rcases hx.out with ⟨_, h⟩ | ⟨_, h, _⟩
          · rw [h, bn_congr (Q := fun _ => false) (fun j _ => by simp [hms])]; decide
          · exact absurd h hms
      clear hx
      go_wp2
      go_ret
      exact ⟨by rw [← HM.out]; unfold plV; rw [← HE.out]; rfl, hb⟩
theorem mat_end (P T : List UInt8) (n : Nat) (hn : T.length = n) : (decide (leastM P ≤ n) && setM P T n) = rowM P T n := by
  subst hn
  simp only [setM, Nat.le_refl, decide_true, Bool.true_and]
  cases h : rowM P T T.length
  · rw [Bool.and_false]
  · have := least_le T P _ h
    simp [this]
set_option maxHeartbeats 1000000 in
theorem implMatches (p t : ByteArray) (w : World) :
    Calls Try.prog 11 #[.string p, .string t] w fun e w' => e = .returned (.bool (matM p.data.toList t.data.toList)) ∧ Below w.heap.size w w' := by
  have HR : Hid (matM p.data.toList t.data.toList = (decide (p.size ≤ 60) && decide (t.size ≤ 60) && rowM p.data.toList t.data.toList t.size)) := by
    show _ = _
    unfold matM
    rw [str_len, str_len]
  have HL : Hid (p.data.toList.length = p.size ∧ t.data.toList.length = t.size) := ⟨str_len p, str_len t⟩
  rw [HR.out]
  by_cases h1 : p.size ≤ 60
  · by_cases h2 : t.size ≤ 60
    · have HB : Hid (ByteArray.size p ≤ 60 ∧ ByteArray.size t ≤ 60) := ⟨h1, h2⟩
      go_enter Try.func11, Try.ntmps11
      go_wp2_with fail
      refine (partsOf_at p h1 _).mono ?_
      rintro e w1 ⟨v, rfl, hp1, hb1⟩
      have HP1 : Hid (PRow w1 v p.data.toList) := hp1
      clear hp1
      go_wp2_with fail
      refine (placeOf_at 0 (by omega) _).mono ?_
      rintro e w2 ⟨rfl, rfl⟩
      rw [pw_bn (by omega)]
      go_wp2_with fail
      refine (endsOf_row p.data.toList (by rw [HL.out.1]; exact h1) v t h2 _ HP1.out).mono ?_
      rintro e w3 ⟨rfl, hb3⟩
      have hb4 := below_over hb1 hb3
      clear hb1 hb3 HP1
      go_wp2_with fail
      refine (hasP_at _ t.size h2 _).mono ?_
      rintro e w4 ⟨rfl, rfl⟩
      go_wp2
      go_ret
      exact ⟨by rw [mat_end _ _ _ HL.out.2, decide_eq_true h1, decide_eq_true h2]; rfl, hb4⟩
    · have hd : decide (t.size ≤ 60) = false := by simpa using h2
      rw [hd, Bool.and_false, Bool.false_and]
      go_enter Try.func11, Try.ntmps11
      go_wp2
      go_ret
      exact ⟨rfl, Below.refl _ _⟩
  · have hd : decide (p.size ≤ 60) = false := by simpa using h1
    rw [hd, Bool.false_and, Bool.false_and]
    go_enter Try.func11, Try.ntmps11
    go_wp2
    go_ret
    exact ⟨rfl, Below.refl _ _⟩
end Pg
end Go.Proofs.Ytbachkjhmenhfaa
