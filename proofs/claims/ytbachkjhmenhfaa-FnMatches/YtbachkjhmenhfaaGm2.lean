/- Contracts of the program's parts of a pattern: the least that one takes, and where it ends. -/
import Derived.Test.YtbachkjhmenhfaaGm1
import Derived.Test.YtbachkjhmenhfaaGr0
namespace Go.Proofs.Ytbachkjhmenhfaa
namespace Pg
open Go.ChangeShapes Go.WideShapes Go.ChangeAt Go.RowKit St
attribute [local go_sem] as_many as_one as_itself as_row

theorem leastOf_many (w : World) : Calls Try.prog 53 #[.iface 78 (.agg #[])] w fun e w' => e = .returned (.int .i64 0) ∧ Below w.heap.size w w' := by
  go_enter Try.func53, Try.ntmps53
  go_wp2
  go_ret
  exact ⟨rfl, by go_grown⟩
theorem leastOf_one (w : World) : Calls Try.prog 53 #[.iface 79 (.agg #[])] w fun e w' => e = .returned (.int .i64 1) ∧ Below w.heap.size w w' := by
  go_enter Try.func53, Try.ntmps53
  go_wp2_with fail
  refine (one_least _).mono ?_
  rintro e w1 ⟨rfl, hb1⟩
  go_wp2
  go_ret
  exact ⟨rfl, hb1⟩
theorem leastOf_itself {c : Int} (w : World) : Calls Try.prog 53 #[.iface 80 (.int .u8 c)] w fun e w' => e = .returned (.int .i64 1) ∧ Below w.heap.size w w' := by
  go_enter Try.func53, Try.ntmps53
  go_wp2_with fail
  refine (itself_least c _).mono ?_
  rintro e w1 ⟨rfl, hb1⟩
  go_wp2
  go_ret
  exact ⟨rfl, hb1⟩
theorem leastOf_at (c : UInt8) (w : World) : Calls Try.prog 53 #[partV c] w fun e w' => e = .returned (.int .i64 (needN c : Int)) ∧ Below w.heap.size w w' := by
  unfold partV
  by_cases h : c = 42
  · subst h
    rw [if_pos rfl, show needN 42 = 0 from rfl]
    exact leastOf_many w
  · rw [if_neg h, show needN c = 1 by unfold needN; rw [if_neg h]]
    by_cases h2 : c = 63
    · rw [if_pos h2]; exact leastOf_one w
    · rw [if_neg h2]; exact leastOf_itself w
theorem str_len (s : ByteArray) : s.data.toList.length = s.size := by rw [Array.length_toList]; rfl
theorem hitI {c : UInt8} (h42 : c ≠ 42) (h63 : c ≠ 63) {s : ByteArray} {T : List UInt8} (hT : T = s.data.toList) {k : Nat} (hk : k < s.size) {v : Nat} : (decide (v = k + 1) && (c == s[k])) = endP c T k v := by
  unfold endP
  rw [if_neg h42]
  subst hT
  rw [hit_get (by rw [str_len]; exact hk)]
  have : (c == 63) = false := by simpa using h63
  simp only [hitB, this, Bool.false_or]
  rfl
set_option maxHeartbeats 1000000 in
theorem endsOf_many (s : ByteArray) (S : Nat → Bool) (hs : s.size ≤ 60) (w : World) :
    Calls Try.prog 39 #[.iface 78 (.agg #[]), .string s, plV S] w fun e w' => e = .returned (plV fun k => decide (k ≤ s.data.toList.length) && stepM 42 s.data.toList S k) ∧ Below w.heap.size w w' := by
  obtain ⟨T, hT⟩ : ∃ T, T = s.data.toList := ⟨_, rfl⟩
  have hlen : T.length = s.size := by rw [hT]; exact str_len s
  rw [← hT]
  have HALL : Hid (∀ k, endsP 42 T S (s.size + 1) k = (decide (k ≤ T.length) && stepM 42 T S k)) := fun k => by
    have := ends_all 42 T S k
    rw [show T.length + 1 - needN 42 = s.size + 1 by rw [hlen]; rfl] at this
    exact this
  have HT : Hid (T = s.data.toList) := hT
  have HLEN : Hid (T.length = s.size) := hlen
  clear hT hlen
  unfold plV
  go_enter Try.func39, Try.ntmps39
  go_wp2_with fail
  refine (leastOf_many _).mono ?_
  rintro e w1 ⟨rfl, hb1⟩
  go_wp2
  go_loopw [7, 15] (fun v i wr => ∃ (k x : Nat), k ≤ s.size + 1 ∧ v = .int .u64 (x : Int) ∧ i = .int .i64 (k : Int) ∧ Hid (x = bn (endsP 42 T S k) 61) ∧ Below w.heap.size w wr) (fun _ i _ => s.size + 1 - (intOf i).toNat)
  case atStart => exact ⟨0, 0, Nat.zero_le _, rfl, rfl, by show 0 = _; rw [bn_congr (Q := fun _ => false) (fun v _ => endsP_zero 42 T S v)]; decide, hb1⟩
  case round =>
    clear hb1
    obtain ⟨k, x, hk, rfl, rfl, hx, hb⟩ := hrel
    by_cases hlt : k < s.size + 1
    · have hki : (k : Int) < (s.size : Int) + 1 := by omega
      go_wp2_with fail
      refine (hasP_at S k (by omega) _).mono ?_
      rintro e w2 ⟨rfl, rfl⟩
      cases hS : S k
      · have HS : Hid (x = bn (endsP 42 T S (k + 1)) 61) := by
          show _ = _
          rw [hx.out]
          exact bn_congr fun v _ => by rw [endsP_succ, hS]; simp
        clear hx hS
        go_wp2
        go_roundw
        case rel => exact ⟨k + 1, x, by omega, rfl, by go_num, HS.out, hb⟩
        case measure => simp [intOf]; omega
      · have HS : Hid (∀ R, (∀ v, v < 61 → R v = endP 42 T k v) → x ||| bn R 61 = bn (endsP 42 T S (k + 1)) 61 ∧ bits .or .u64 (x : Int) (bn R 61 : Int) = ((x ||| bn R 61 : Nat) : Int)) := fun R hR => by
          have e := hx.out
          rw [e]
          refine ⟨?_, orU _ _ (bn_lt63 _) (bn_lt63 _)⟩
          refine bn_extN fun v => ?_
          rw [Nat.testBit_or, bn_test, bn_test, endsP_succ, hS, Bool.true_and]
          by_cases hv : v < 61
          · simp [hv, hR v hv]
          · simp [hv]
        clear hx hS
        go_wp2_with fail
        refine (many_ends s hs k (by omega) _).mono ?_
        rintro e w3 ⟨rfl, hb3⟩
        unfold plV
        have hE := HS.out (fun j => decide (k ≤ j) && decide (j ≤ s.size)) (fun v _ => by simp [endP, HLEN.out])
        have H1 := hE.1
        have H2 : Hid (bits .or .u64 (x : Int) (bn (fun j => decide (k ≤ j) && decide (j ≤ s.size)) 61 : Int) = ((x ||| bn (fun j => decide (k ≤ j) && decide (j ≤ s.size)) 61 : Nat) : Int)) := hE.2
        have H1' : Hid (x ||| bn (fun j => decide (k ≤ j) && decide (j ≤ s.size)) 61 = bn (endsP 42 T S (k + 1)) 61) := H1
        clear hE H1 HS
        generalize bn (fun j => decide (k ≤ j) && decide (j ≤ s.size)) 61 = y at *
        have hb4 := below_over hb hb3
        clear hb3
        go_wp2
        go_roundw
        case rel => exact ⟨k + 1, x ||| y, by omega, by first | exact congrArg (Value.int .u64) H2.out | rw [H2.out], by go_num, H1'.out, hb4⟩
        case measure => simp [intOf]; omega
    · have HE : Hid (x = bn (fun k => decide (k ≤ T.length) && stepM 42 T S k) 61) := by
        show _ = _
        rw [hx.out]
        obtain rfl : k = s.size + 1 := by omega
        exact bn_congr fun v _ => HALL.out v
      clear hx HALL
      go_wp2
      go_ret
      exact ⟨by rw [← HE.out]; rfl, hb⟩
set_option maxHeartbeats 1000000 in
theorem endsOf_one (s : ByteArray) (S : Nat → Bool) (hs : s.size ≤ 60) (w : World) :
    Calls Try.prog 39 #[.iface 79 (.agg #[]), .string s, plV S] w fun e w' => e = .returned (plV fun k => decide (k ≤ s.data.toList.length) && stepM 63 s.data.toList S k) ∧ Below w.heap.size w w' := by
  obtain ⟨T, hT⟩ : ∃ T, T = s.data.toList := ⟨_, rfl⟩
  have hlen : T.length = s.size := by rw [hT]; exact str_len s
  rw [← hT]
  have HALL : Hid (∀ k, endsP 63 T S (s.size) k = (decide (k ≤ T.length) && stepM 63 T S k)) := fun k => by
    have := ends_all 63 T S k
    rw [show T.length + 1 - needN 63 = s.size by rw [hlen]; rfl] at this
    exact this
  have HT : Hid (T = s.data.toList) := hT
  have HLEN : Hid (T.length = s.size) := hlen
  clear hT hlen
  unfold plV
  go_enter Try.func39, Try.ntmps39
  go_wp2_with fail
  refine (leastOf_one _).mono ?_
  rintro e w1 ⟨rfl, hb1⟩
  go_wp2
  go_loopw [7, 15] (fun v i wr => ∃ (k x : Nat), k ≤ s.size ∧ v = .int .u64 (x : Int) ∧ i = .int .i64 (k : Int) ∧ Hid (x = bn (endsP 63 T S k) 61) ∧ Below w.heap.size w wr) (fun _ i _ => s.size + 1 - (intOf i).toNat)
  case atStart => exact ⟨0, 0, Nat.zero_le _, rfl, rfl, by show 0 = _; rw [bn_congr (Q := fun _ => false) (fun v _ => endsP_zero 63 T S v)]; decide, hb1⟩
  case round =>
    clear hb1
    obtain ⟨k, x, hk, rfl, rfl, hx, hb⟩ := hrel
    by_cases hlt : k < s.size
    · have hki : (k : Int) < (s.size : Int) := by omega
      go_wp2_with fail
      refine (hasP_at S k (by omega) _).mono ?_
      rintro e w2 ⟨rfl, rfl⟩
      cases hS : S k
      · have HS : Hid (x = bn (endsP 63 T S (k + 1)) 61) := by
          show _ = _
          rw [hx.out]
          exact bn_congr fun v _ => by rw [endsP_succ, hS]; simp
        clear hx hS
        go_wp2
        go_roundw
        case rel => exact ⟨k + 1, x, by omega, rfl, by go_num, HS.out, hb⟩
        case measure => simp [intOf]; omega
      · have HS : Hid (∀ R, (∀ v, v < 61 → R v = endP 63 T k v) → x ||| bn R 61 = bn (endsP 63 T S (k + 1)) 61 ∧ bits .or .u64 (x : Int) (bn R 61 : Int) = ((x ||| bn R 61 : Nat) : Int)) := fun R hR => by
          have e := hx.out
          rw [e]
          refine ⟨?_, orU _ _ (bn_lt63 _) (bn_lt63 _)⟩
          refine bn_extN fun v => ?_
          rw [Nat.testBit_or, bn_test, bn_test, endsP_succ, hS, Bool.true_and]
          by_cases hv : v < 61
          · simp [hv, hR v hv]
          · simp [hv]
        clear hx hS
        go_wp2_with fail
        refine (one_ends s k (by omega) _).mono ?_
        rintro e w3 ⟨rfl, hb3⟩
        unfold plV
        have hE := HS.out (fun j => decide (j = k + 1)) (fun v _ => by simp only [endP]; rw [if_neg (by decide), hit_get (by rw [HLEN.out]; omega)]; simp [hitB])
        have H1 := hE.1
        have H2 : Hid (bits .or .u64 (x : Int) (bn (fun j => decide (j = k + 1)) 61 : Int) = ((x ||| bn (fun j => decide (j = k + 1)) 61 : Nat) : Int)) := hE.2
        have H1' : Hid (x ||| bn (fun j => decide (j = k + 1)) 61 = bn (endsP 63 T S (k + 1)) 61) := H1
        clear hE H1 HS
        generalize bn (fun j => decide (j = k + 1)) 61 = y at *
        have hb4 := below_over hb hb3
        clear hb3
        go_wp2
        go_roundw
        case rel => exact ⟨k + 1, x ||| y, by omega, by first | exact congrArg (Value.int .u64) H2.out | rw [H2.out], by go_num, H1'.out, hb4⟩
        case measure => simp [intOf]; omega
    · have HE : Hid (x = bn (fun k => decide (k ≤ T.length) && stepM 63 T S k) 61) := by
        show _ = _
        rw [hx.out]
        obtain rfl : k = s.size := by omega
        exact bn_congr fun v _ => HALL.out v
      clear hx HALL
      go_wp2
      go_ret
      exact ⟨by rw [← HE.out]; rfl, hb⟩
set_option maxHeartbeats 1000000 in
theorem endsOf_itself (c : UInt8) (h42 : c ≠ 42) (h63 : c ≠ 63) (s : ByteArray) (S : Nat → Bool) (hs : s.size ≤ 60) (w : World) :
    Calls Try.prog 39 #[.iface 80 (.int .u8 (c.toNat : Int)), .string s, plV S] w fun e w' => e = .returned (plV fun k => decide (k ≤ s.data.toList.length) && stepM c s.data.toList S k) ∧ Below w.heap.size w w' := by
  obtain ⟨T, hT⟩ : ∃ T, T = s.data.toList := ⟨_, rfl⟩
  have hlen : T.length = s.size := by rw [hT]; exact str_len s
  rw [← hT]
  have HALL : Hid (∀ k, endsP c T S (s.size) k = (decide (k ≤ T.length) && stepM c T S k)) := fun k => by
    have := ends_all c T S k
    rw [show T.length + 1 - needN c = s.size by rw [hlen]; unfold needN; rw [if_neg h42]; rfl] at this
    exact this
  have HT : Hid (T = s.data.toList) := hT
  have HLEN : Hid (T.length = s.size) := hlen
  clear hT hlen
  unfold plV
  go_enter Try.func39, Try.ntmps39
  go_wp2_with fail
  refine (leastOf_itself _).mono ?_
  rintro e w1 ⟨rfl, hb1⟩
  go_wp2
  go_loopw [7, 15] (fun v i wr => ∃ (k x : Nat), k ≤ s.size ∧ v = .int .u64 (x : Int) ∧ i = .int .i64 (k : Int) ∧ Hid (x = bn (endsP c T S k) 61) ∧ Below w.heap.size w wr) (fun _ i _ => s.size + 1 - (intOf i).toNat)
  case atStart => exact ⟨0, 0, Nat.zero_le _, rfl, rfl, by show 0 = _; rw [bn_congr (Q := fun _ => false) (fun v _ => endsP_zero c T S v)]; decide, hb1⟩
  case round =>
    clear hb1
    obtain ⟨k, x, hk, rfl, rfl, hx, hb⟩ := hrel
    by_cases hlt : k < s.size
    · have hki : (k : Int) < (s.size : Int) := by omega
      go_wp2_with fail
      refine (hasP_at S k (by omega) _).mono ?_
      rintro e w2 ⟨rfl, rfl⟩
      cases hS : S k
      · have HS : Hid (x = bn (endsP c T S (k + 1)) 61) := by
          show _ = _
          rw [hx.out]
          exact bn_congr fun v _ => by rw [endsP_succ, hS]; simp
        clear hx hS
        go_wp2
        go_roundw
        case rel => exact ⟨k + 1, x, by omega, rfl, by go_num, HS.out, hb⟩
        case measure => simp [intOf]; omega
      · have HS : Hid (∀ R, (∀ v, v < 61 → R v = endP c T k v) → x ||| bn R 61 = bn (endsP c T S (k + 1)) 61 ∧ bits .or .u64 (x : Int) (bn R 61 : Int) = ((x ||| bn R 61 : Nat) : Int)) := fun R hR => by
          have e := hx.out
          rw [e]
          refine ⟨?_, orU _ _ (bn_lt63 _) (bn_lt63 _)⟩
          refine bn_extN fun v => ?_
          rw [Nat.testBit_or, bn_test, bn_test, endsP_succ, hS, Bool.true_and]
          by_cases hv : v < 61
          · simp [hv, hR v hv]
          · simp [hv]
        clear hx hS
        go_wp2_with fail
        refine (itself_ends c s hs k (by omega) _).mono ?_
        rintro e w3 ⟨rfl, rfl⟩
        unfold plV
        have hE := HS.out (fun j => decide (j = k + 1) && (c == s[k])) (fun v _ => by exact hitI h42 h63 HT.out (by omega))
        have H1 := hE.1
        have H2 : Hid (bits .or .u64 (x : Int) (bn (fun j => decide (j = k + 1) && (c == s[k])) 61 : Int) = ((x ||| bn (fun j => decide (j = k + 1) && (c == s[k])) 61 : Nat) : Int)) := hE.2
        have H1' : Hid (x ||| bn (fun j => decide (j = k + 1) && (c == s[k])) 61 = bn (endsP c T S (k + 1)) 61) := H1
        clear hE H1 HS
        generalize bn (fun j => decide (j = k + 1) && (c == s[k])) 61 = y at *
        have hb4 := hb
        go_wp2
        go_roundw
        case rel => exact ⟨k + 1, x ||| y, by omega, by first | exact congrArg (Value.int .u64) H2.out | rw [H2.out], by go_num, H1'.out, hb4⟩
        case measure => simp [intOf]; omega
    · have HE : Hid (x = bn (fun k => decide (k ≤ T.length) && stepM c T S k) 61) := by
        show _ = _
        rw [hx.out]
        obtain rfl : k = s.size := by omega
        exact bn_congr fun v _ => HALL.out v
      clear hx HALL
      go_wp2
      go_ret
      exact ⟨by rw [← HE.out]; rfl, hb⟩
theorem endsOf_at (c : UInt8) (s : ByteArray) (S : Nat → Bool) (hs : s.size ≤ 60) (w : World) :
    Calls Try.prog 39 #[partV c, .string s, plV S] w fun e w' => e = .returned (plV fun k => decide (k ≤ s.data.toList.length) && stepM c s.data.toList S k) ∧ Below w.heap.size w w' := by
  unfold partV
  by_cases h : c = 42
  · subst h; rw [if_pos rfl]; exact endsOf_many s S hs w
  · rw [if_neg h]
    by_cases h2 : c = 63
    · subst h2; rw [if_pos rfl]; exact endsOf_one s S hs w
    · rw [if_neg h2]; exact endsOf_itself c h h2 s S hs w
end Pg
end Go.Proofs.Ytbachkjhmenhfaa
