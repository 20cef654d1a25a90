/- Contracts of the program's places of a text, and of its parts of a pattern. -/
import Derived.Test.YtbachkjhmenhfaaGm0
import Derived.Test.YtbachkjhmenhfaaPg0
import Derived.Stop.Asserts
namespace Go.Proofs.Ytbachkjhmenhfaa
namespace Pg
open Go.ChangeShapes Go.WideShapes Go.ChangeAt Go.RowKit St

def pw (k : Nat) : Nat := 2 ^ k
theorem pw_lt {k : Nat} (h : k ≤ 61) : pw k < 4611686018427387904 := by
  have : (2 : Nat) ^ k ≤ 2 ^ 61 := Nat.pow_le_pow_right (by decide) h
  unfold pw
  omega
theorem wrapU63 (n : Int) (h₀ : 0 ≤ n) (h₁ : n < 2 ^ 63) : IntKind.u64.wrap n = n := by rw [IntKind.wrap_u64]; omega
theorem andU (a b : Nat) (ha : a < 2 ^ 63) (hb : b < 2 ^ 63) : bits .and .u64 (a : Int) (b : Int) = ((a &&& b : Nat) : Int) := (bits_nat .u64 63 (by decide) wrapU63 a b ha hb).1
theorem orU (a b : Nat) (ha : a < 2 ^ 63) (hb : b < 2 ^ 63) : bits .or .u64 (a : Int) (b : Int) = ((a ||| b : Nat) : Int) := (bits_nat .u64 63 (by decide) wrapU63 a b ha hb).2
theorem bn_lt63 (S : Nat → Bool) : bn S 61 < 2 ^ 63 := Nat.lt_trans (bn_lt S 61) (by decide)
/-- A set of places, as the program holds it. -/
def plV (S : Nat → Bool) : Value := .int .u64 (bn S 61 : Int)
theorem pl_congr {R S : Nat → Bool} (h : ∀ k, k < 61 → R k = S k) : plV R = plV S := by unfold plV; rw [bn_congr h]
theorem and_pw (S : Nat → Bool) {k : Nat} (hk : k ≤ 60) : (bits .and .u64 (bn S 61 : Int) (pw k : Int) != 0) = S k := by
  rw [andU _ _ (bn_lt63 S) (by have := pw_lt (k := k) (by omega); omega)]
  unfold pw
  have key : ∀ v, (bn S 61 &&& 2 ^ k).testBit v = (decide (k = v) && S k) := fun v => by
    rw [Nat.testBit_and, bn_test, Nat.testBit_two_pow]
    by_cases e : k = v
    · subst e
      have : k < 61 := by omega
      simp [this]
    · simp [e]
  cases hS : S k
  · have : bn S 61 &&& 2 ^ k = 0 := Nat.eq_of_testBit_eq fun v => by rw [key, hS, Nat.zero_testBit, Bool.and_false]
    rw [this]; rfl
  · have : bn S 61 &&& 2 ^ k ≠ 0 := fun h => by
      have h1 := key k
      rw [h, Nat.zero_testBit, hS] at h1
      simp at h1
    rw [bne_iff_ne]
    omega
theorem or_bnU (R S : Nat → Bool) : Value.int .u64 (bits .or .u64 (bn R 61 : Int) (bn S 61 : Int)) = plV fun k => R k || S k := by
  unfold plV
  rw [orU _ _ (bn_lt63 R) (bn_lt63 S)]
  congr 2
  refine bn_extN fun v => ?_
  rw [Nat.testBit_or, bn_test, bn_test]
  cases decide (v < 61) <;> simp
theorem pw_bn {k : Nat} (hk : k ≤ 60) : Value.int .u64 (pw k : Int) = plV fun j => decide (j = k) := by
  unfold plV
  congr 2
  refine bn_extN fun v => ?_
  unfold pw
  rw [Nat.testBit_two_pow]
  by_cases e : k = v
  · subst e; simp; omega
  · simp [e, Ne.symm e]
theorem run_bn (a : Nat) : ∀ m, a ≤ m → bn (fun k => decide (a ≤ k)) m + 2 ^ a = 2 ^ m
  | 0, h => by
    obtain rfl : a = 0 := by omega
    rfl
  | m + 1, h => by
    by_cases e : a = m + 1
    · subst e
      have : bn (fun k => decide (m + 1 ≤ k)) (m + 1) = 0 := by
        refine Nat.eq_of_testBit_eq fun v => ?_
        rw [bn_test, Nat.zero_testBit]
        by_cases hv : v < m + 1
        · have : decide (m + 1 ≤ v) = false := by simp; omega
          rw [this, Bool.and_false]
        · simp [hv]
      omega
    · have ih := run_bn a m (by omega)
      have hlt := bn_lt (fun k => decide (a ≤ k)) m
      have : bn (fun k => decide (a ≤ k)) (m + 1) = bn (fun k => decide (a ≤ k)) m + 2 ^ m := by
        show bn _ m ||| (if decide (a ≤ m) = true then 2 ^ m else 0) = _
        rw [if_pos (by simp; omega), Nat.or_comm]
        have := Nat.two_pow_add_eq_or_of_lt hlt 1
        rw [Nat.mul_one] at this
        omega
      rw [Nat.pow_succ]
      omega
theorem sub_pw {n a : Nat} (hn : n ≤ 60) (ha : a ≤ n) : ((pw (n + 1) : Int) - (pw a : Int)) = (bn (fun k => decide (a ≤ k) && decide (k ≤ n)) 61 : Int) := by
  have h := run_bn a (n + 1) (by omega)
  have e : bn (fun k => decide (a ≤ k)) (n + 1) = bn (fun k => decide (a ≤ k) && decide (k ≤ n)) 61 := by
    refine bn_extN fun v => ?_
    rw [bn_test]
    by_cases hv : v ≤ n
    · have h1 : v < 61 := by omega
      have h2 : v < n + 1 := by omega
      simp [hv, h1, h2]
    · have h2 : ¬ v < n + 1 := by omega
      simp [hv, h2]
  rw [← e]
  unfold pw
  omega

theorem placeOf_at (k : Nat) (hk : k ≤ 61) (w : World) :
    Calls Try.prog 41 #[.int .i64 k] w fun e w' => e = .returned (.int .u64 (pw k : Int)) ∧ w' = w := by
  have hp := pw_lt hk
  have HP : Hid (IntKind.u64.wrap (2 ^ k) = (pw k : Int)) := by
    show _ = _
    have e : ((2 : Int) ^ k) = (pw k : Int) := by unfold pw; simp
    rw [e]
    exact wrapU63 _ (by omega) (by omega)
  clear hp
  go_enter Try.func41, Try.ntmps41
  go_wp2
  go_ret
  exact ⟨by rw [HP.out]; rfl, rfl⟩
theorem hasP_at (S : Nat → Bool) (k : Nat) (hk : k ≤ 60) (w : World) :
    Calls Try.prog 42 #[plV S, .int .i64 k] w fun e w' => e = .returned (.bool (S k)) ∧ w' = w := by
  have HP : Hid ((bits .and .u64 (bn S 61 : Int) (pw k : Int) != 0) = S k) := and_pw S hk
  unfold plV
  generalize bn S 61 = m at *
  go_enter Try.func42, Try.ntmps42
  go_wp2_with fail
  refine (placeOf_at k (by omega) _).mono ?_
  rintro e w' ⟨rfl, rfl⟩
  go_wp2
  go_ret
  exact ⟨by rw [HP.out]; rfl, rfl⟩

/-- A part of a pattern, as the program holds it. -/
def partV (c : UInt8) : Value := if c = 42 then .iface 78 (.agg #[]) else if c = 63 then .iface 79 (.agg #[]) else .iface 80 (.int .u8 (c.toNat : Int))

theorem many_ends (s : ByteArray) (hs : s.size ≤ 60) (a : Nat) (ha : a ≤ s.size) (w : World) :
    Calls Try.prog 80 #[.agg #[], .string s, .int .i64 a] w fun e w' => e = .returned (plV fun k => decide (a ≤ k) && decide (k ≤ s.size)) ∧ Below w.heap.size w w' := by
  have HP : Hid (((pw (s.size + 1) : Int) - (pw a : Int)) = (bn (fun k => decide (a ≤ k) && decide (k ≤ s.size)) 61 : Int)) := sub_pw hs ha
  have HL : Hid (bn (fun k => decide (a ≤ k) && decide (k ≤ s.size)) 61 < 2 ^ 61) := bn_lt _ _
  go_enter Try.func80, Try.ntmps80
  go_wp2_with fail
  refine (placeOf_at (s.size + 1) (by omega) _).mono ?_
  rintro e w' ⟨rfl, rfl⟩
  go_wp2_with fail
  refine (placeOf_at a (by omega) _).mono ?_
  rintro e w' ⟨rfl, rfl⟩
  go_wp2
  go_ret
  refine ⟨?_, by go_grown⟩
  have := HL.out
  unfold plV
  rw [HP.out, wrapU63 _ (by omega) (by omega)]; rfl
theorem one_ends (s : ByteArray) (a : Nat) (ha : a < 60) (w : World) :
    Calls Try.prog 81 #[.agg #[], .string s, .int .i64 a] w fun e w' => e = .returned (plV fun k => decide (k = a + 1)) ∧ Below w.heap.size w w' := by
  go_enter Try.func81, Try.ntmps81
  go_wp2_with fail
  refine (placeOf_at (a + 1) (by omega) _).mono ?_
  rintro e w' ⟨rfl, rfl⟩
  go_wp2
  go_ret
  exact ⟨by rw [pw_bn (by omega)]; rfl, by go_grown⟩
theorem itself_ends (c : UInt8) (s : ByteArray) (hs : s.size ≤ 60) (a : Nat) (ha : a < s.size) (w : World) :
    Calls Try.prog 83 #[.int .u8 (c.toNat : Int), .string s, .int .i64 a] w fun e w' => e = .returned (plV fun k => decide (k = a + 1) && (c == s[a])) ∧ w' = w := by
  have hai : (a : Int) < (s.size : Int) := by omega
  by_cases e : s[a] = c
  · have hx : ((s[a].toNat : Int) != (c.toNat : Int)) = false := by rw [e]; simp
    have HX : Hid ((fun k => decide (k = a + 1) && (c == s[a])) = fun k => decide (k = a + 1)) := by show _ = _; rw [e]; simp
    go_enter Try.func83, Try.ntmps83
    go_wp2_with fail
    refine (placeOf_at (a + 1) (by omega) _).mono ?_
    rintro e w' ⟨rfl, rfl⟩
    go_wp2
    go_ret
    exact ⟨by rw [HX.out, pw_bn (by omega)]; rfl, rfl⟩
  · have hx : ((s[a].toNat : Int) != (c.toNat : Int)) = true := by
      rw [bne_iff_ne]; intro h
      exact e (UInt8.toNat_inj.1 (by omega))
    have HX : Hid ((fun k => decide (k = a + 1) && (c == s[a])) = fun _ => false) := by
      show _ = _
      funext k
      have : (c == s[a]) = false := by rw [beq_eq_false_iff_ne]; exact fun h => e h.symm
      rw [this, Bool.and_false]
    go_enter Try.func83, Try.ntmps83
    go_wp2_with fail
    go_ret
    exact ⟨by rw [HX.out, plV, show bn (fun _ => false) 61 = 0 from by decide]; rfl, rfl⟩

/-! A part asked for the least that it takes. -/
theorem one_least (w : World) : Calls Try.prog 82 #[.agg #[]] w fun e w' => e = .returned (.int .i64 1) ∧ Below w.heap.size w w' := by
  go_enter Try.func82, Try.ntmps82
  go_wp2
  go_ret
  exact ⟨rfl, by go_grown⟩
theorem itself_least (c : Int) (w : World) : Calls Try.prog 84 #[.int .u8 c] w fun e w' => e = .returned (.int .i64 1) ∧ Below w.heap.size w w' := by
  go_enter Try.func84, Try.ntmps84
  go_wp2
  go_ret
  exact ⟨rfl, by go_grown⟩
theorem as_many (v : Value) (w : World) : (Instr.typeAssert (.iface 78 v) 74 86 true).run Try.prog w = .ok (.tuple #[.nilIface, .bool false]) w := run_typeAssert_lacksB Try.underlying86 (by kernel_rfl) (by kernel_rfl) v 74 w
theorem as_one (v : Value) (w : World) : (Instr.typeAssert (.iface 79 v) 74 86 true).run Try.prog w = .ok (.tuple #[.iface 79 v, .bool true]) w := by kernel_rfl
theorem as_itself (v : Value) (w : World) : (Instr.typeAssert (.iface 80 v) 74 86 true).run Try.prog w = .ok (.tuple #[.iface 80 v, .bool true]) w := by kernel_rfl
theorem as_row (v : Value) (w : World) : (Instr.typeAssert (.iface 58 v) 74 86 true).run Try.prog w = .ok (.tuple #[.iface 58 v, .bool true]) w := by kernel_rfl
end Pg
end Go.Proofs.Ytbachkjhmenhfaa
