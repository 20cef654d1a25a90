/- The contracts of the two sides of WordOk, and the plain facts on words. -/
import Derived.Test.YtinanjjhkddikaaGreatRows
import Derived.WalkKit
import Derived.ProofKit
import Derived.OpenShut
import Derived.Lib.ItoaMem
import Derived.Lib.ItoaLen
import Derived.Lib.ParseIntBTie
import Derived.Lib.Split
import Derived.Lib.Join
namespace Go.Proofs.YtinanjjhkddikaaGreat
namespace Wd
open Go.ChangeShapes Go.WideShapes Go.ChangeAt Go.RowKit

def okB (n : Int) : Bool := decide (-2147483648 ≤ n) && decide (n ≤ 2147483647)

theorem ok_yes {n : Int} (h : okB n = true) : -2147483648 ≤ n ∧ n ≤ 2147483647 := by
  simpa [okB] using h
theorem ok_no {n : Int} (h : okB n = false) : n < -2147483648 ∨ 2147483647 < n := by
  simp [okB] at h
  omega
theorem wrap_bd (n : Int) : -2147483648 ≤ wrap32 n ∧ wrap32 n ≤ 2147483647 := by
  unfold wrap32; omega
theorem wrap_ne {n : Int} (h : okB n = false) : (wrap32 n == n) = false := by
  have h1 := ok_no h
  have h2 := wrap_bd n
  simp; omega
theorem wrap_eq {n : Int} (h : okB n = true) : wrap32 n = n := by
  have h1 := ok_yes h
  unfold wrap32; omega
theorem wrap_ok (n : Int) : okB (wrap32 n) = true := by
  have h := wrap_bd n
  simp [okB, h]

theorem w32_64 (n : Int) : wrap32 (wrap64 n) = wrap32 n := by
  unfold wrap32 wrap64; omega
theorem ret_int {k : IntKind} {a b : Int} (h : a = b) : Ending.returned (.int k a) = .returned (.int k b) := by rw [h]

def plusF (a b : Int) : Int := if okB a && okB b then wrap32 (a + b) else 0
def minusF (a b : Int) : Int := if okB a && okB b then wrap32 (a - b) else 0
def timesF (a b : Int) : Int := if okB a && okB b then wrap32 (a * b) else 0
def overB (a b : Int) : Bool := okB a && okB b && !(b == 0)
def overF (a b : Int) : Int := if overB a b then wrap32 (a.tdiv b) else 0

theorem implWrap (n : Int) (w : World) :
    Calls Tryz.prog 117 #[.int .i64 n] w fun e w' => e = .returned (.int .i64 (wrap32 n)) ∧ w = w' := by
  have hb := (wrap_bd n).1
  have hc := (wrap_bd n).2
  go_enter Tryz.func117, Tryz.ntmps117
  go_wp2
  go_ret
  exact ⟨rfl, rfl⟩
theorem implWordOk (n : Int) (w : World) :
    Calls Tryz.prog 113 #[.int .i64 n] w fun e w' => e = .returned (.bool (okB n)) ∧ w = w' := by
  have hb := (wrap_bd n).1
  have hc := (wrap_bd n).2
  cases h : okB n
  · have h1 := wrap_ne h
    clear h
    go_enter Tryz.func113, Tryz.ntmps113
    go_wp2
    go_ret
    exact ⟨rfl, rfl⟩
  · have h1 := (ok_yes h).1
    have h2 := (ok_yes h).2
    clear h
    go_enter Tryz.func113, Tryz.ntmps113
    go_wp2
    go_ret
    exact ⟨rfl, rfl⟩
theorem specWordOk (n : Int) (w : World) :
    Calls Tryz.prog 110 #[.int .i64 n] w fun e w' => e = .returned (.bool (okB n)) ∧ w = w' := by
  by_cases h1 : -2147483648 ≤ n
  · by_cases h2 : n ≤ 2147483647
    · have e : okB n = true := by simp [okB, h1, h2]
      rw [e]
      clear e
      go_enter Tryz.func110, Tryz.ntmps110
      go_wp2
      go_ret
      exact ⟨rfl, rfl⟩
    · have e : okB n = false := by simp [okB, h2]
      rw [e]
      clear e
      go_enter Tryz.func110, Tryz.ntmps110
      go_wp2
      go_ret
      exact ⟨rfl, rfl⟩
  · have e : okB n = false := by simp [okB, h1]
    rw [e]
    clear e
    go_enter Tryz.func110, Tryz.ntmps110
    go_wp2
    go_ret
    exact ⟨rfl, rfl⟩

end Wd
end Go.Proofs.YtinanjjhkddikaaGreat

/- Plain facts on texts: numerals read back, texts cut at a byte, steps shown and read. No program in it. -/
namespace Go.Proofs.YtinanjjhkddikaaGreat
namespace Tx
open Go.Lib

/-! Digits -/
def isDig (c : UInt8) : Bool := decide (48 ≤ c.toNat) && decide (c.toNat ≤ 57)

theorem ofNat_dig (k : Nat) (h : k < 10) : (UInt8.ofNat (48 + k)).toNat = 48 + k := by
  simp [UInt8.toNat_ofNat']; omega

theorem dec_small {u : Nat} (h : u < 10) : decDigits u = [UInt8.ofNat (48 + u)] := by rw [decDigits, dif_pos h]
theorem dec_big {u : Nat} (h : ¬ u < 10) : decDigits u = decDigits (u / 10) ++ [UInt8.ofNat (48 + u % 10)] := by rw [decDigits, dif_neg h]

theorem dec_dig (u : Nat) : ∀ c ∈ decDigits u, isDig c = true := by
  induction u using Nat.strongRecOn with
  | _ u ih =>
    by_cases h : u < 10
    · rw [dec_small h]; intro c hc
      simp only [List.mem_singleton] at hc; subst hc
      have := ofNat_dig u h
      simp only [isDig, this, Bool.and_eq_true, decide_eq_true_eq]; omega
    · rw [dec_big h]; intro c hc
      rcases List.mem_append.1 hc with hc | hc
      · exact ih (u / 10) (by omega) c hc
      · simp only [List.mem_singleton] at hc; subst hc
        have := ofNat_dig (u % 10) (by omega)
        simp only [isDig, this, Bool.and_eq_true, decide_eq_true_eq]; omega

theorem dec_ne (u : Nat) : decDigits u ≠ [] := by
  by_cases h : u < 10
  · rw [dec_small h]; simp
  · rw [dec_big h]; simp

theorem dec_len (u k : Nat) (h : u < 10 ^ (k + 1)) : (decDigits u).length ≤ k + 1 := by
  induction k generalizing u with
  | zero => rw [dec_small (by simpa using h)]; simp
  | succ k ih =>
    by_cases hu : u < 10
    · rw [dec_small hu]; simp
    · rw [dec_big hu]
      have := ih (u / 10) (by rw [Nat.pow_succ] at h; omega)
      simp only [List.length_append, List.length_singleton]; omega

/-- The first digit is no nought but in nought itself. -/
theorem dec_head (u : Nat) (h : u ≠ 0) : ∃ c r, decDigits u = c :: r ∧ c.toNat ≠ 48 := by
  induction u using Nat.strongRecOn with
  | _ u ih =>
    by_cases hu : u < 10
    · exact ⟨_, [], dec_small hu, by rw [ofNat_dig u hu]; omega⟩
    · obtain ⟨c, r, e, hc⟩ := ih (u / 10) (by omega) (by omega)
      exact ⟨c, r ++ [UInt8.ofNat (48 + u % 10)], by rw [dec_big hu, e]; rfl, hc⟩

theorem parse_app (M : Nat) (l r : List UInt8) : ∀ acc, parseUintM M acc (l ++ r) = match parseUintM M acc l with | .ok a => parseUintM M a r | .syntax => .syntax | .range => .range := by
  induction l with
  | nil => intro acc; rfl
  | cons c l ih =>
    intro acc
    simp only [List.cons_append, parseUintM]
    split
    · split
      · rfl
      · split
        · rfl
        · exact ih _
    · rfl

theorem parse_dec (u : Nat) (h : u ≤ 18446744073709551615) : parseUintM 18446744073709551615 0 (decDigits u) = .ok u := by
  induction u using Nat.strongRecOn with
  | _ u ih =>
    by_cases hu : u < 10
    · rw [dec_small hu]
      have := ofNat_dig u hu
      simp only [parseUintM, this]
      rw [if_pos (by omega), if_neg (by omega), if_neg (by omega)]
      congr 1; omega
    · rw [dec_big hu, parse_app, ih (u / 10) (by omega) (by omega)]
      have := ofNat_dig (u % 10) (by omega)
      simp only [parseUintM, this]
      rw [if_pos (by omega), if_neg (by omega), if_neg (by omega)]
      congr 1; omega

/-- What the program takes a piece of text for. -/
def numL (l : List UInt8) : Int := match parseIntB 64 l with | .ok v => v | .syntax => 0 | .range => intSat 64 l

theorem num_nil : numL [] = 0 := rfl

theorem num_itoa (a : Int) (h0 : -9223372036854775808 ≤ a) (h1 : a ≤ 9223372036854775807) : numL (itoa a) = a := by
  have e64 : (2 ^ 64 - 1 : Nat) = 18446744073709551615 := by decide
  have e63 : (2 ^ (64 - 1) : Nat) = 9223372036854775808 := by decide
  suffices h : parseIntB 64 (itoa a) = .ok a by unfold numL; rw [h]
  unfold itoa
  split
  · rename_i hn
    have hp := parse_dec a.natAbs (by omega)
    simp only [parseIntB]
    rw [if_pos (by decide)]
    unfold parseUintB
    rw [if_neg (dec_ne _), e64, hp, e63]
    simp only
    rw [if_neg (by simp), if_neg (by omega)]
    simp; omega
  · rename_i hn
    have hp := parse_dec a.toNat (by omega)
    obtain ⟨c, r, e⟩ : ∃ c r, decDigits a.toNat = c :: r := by
      cases hh : decDigits a.toNat with
      | nil => exact absurd hh (dec_ne _)
      | cons c r => exact ⟨c, r, rfl⟩
    have hd := dec_dig a.toNat c (by rw [e]; simp)
    simp only [isDig, Bool.and_eq_true, decide_eq_true_eq] at hd
    rw [e] at hp ⊢
    simp only [parseIntB]
    rw [if_neg (by omega)]
    unfold parseUintB
    rw [if_neg (by simp), e64, hp, e63]
    simp only
    rw [if_neg (by omega), if_neg (by omega), if_neg (by omega)]
    congr 1; omega

/-! The reader of the other side -/
def foldN (l : List UInt8) : Nat := l.foldl (fun n c => n * 10 + (c.toNat - 48)) 0
theorem fold_dec (u : Nat) : foldN (decDigits u) = u := by
  induction u using Nat.strongRecOn with
  | _ u ih =>
    by_cases hu : u < 10
    · rw [dec_small hu]; simp only [foldN, List.foldl_cons, List.foldl_nil, ofNat_dig u hu]; omega
    · rw [dec_big hu]
      have := ih (u / 10) (by omega)
      unfold foldN at this ⊢
      rw [List.foldl_append, this]
      simp only [List.foldl_cons, List.foldl_nil, ofNat_dig (u % 10) (by omega)]; omega

def negL (l : List UInt8) : Bool := l.head? == some 45
def bodyL (l : List UInt8) : List UInt8 := if negL l then l.tail else l
def rdL (l : List UInt8) : Int :=
  if (bodyL l).length < 1 ∨ (bodyL l).length > 10 then 0
  else if (bodyL l).all isDig = false then 0
  else if (bodyL l).head? = some 48 ∧ (negL l = true ∨ l.length > 1) then 0
  else if negL l then -(foldN (bodyL l) : Int) else foldN (bodyL l)

theorem rd_itoa (a : Int) (h0 : -2147483648 ≤ a) (h1 : a ≤ 2147483647) : rdL (itoa a) = a := by
  unfold itoa
  split
  · rename_i hn
    have hneg : negL (45 :: decDigits a.natAbs) = true := by simp [negL]
    have hb : bodyL (45 :: decDigits a.natAbs) = decDigits a.natAbs := by simp [bodyL, hneg]
    have hlen := dec_len a.natAbs 9 (by omega)
    have hne : 0 < (decDigits a.natAbs).length := List.length_pos_iff.2 (dec_ne _)
    have hall : (decDigits a.natAbs).all isDig = true := List.all_eq_true.2 (dec_dig _)
    obtain ⟨c, r, e, hc⟩ := dec_head a.natAbs (by omega)
    have hh : (decDigits a.natAbs).head? ≠ some 48 := by
      rw [e]; intro hh; simp only [List.head?_cons, Option.some.injEq] at hh; subst hh; exact hc rfl
    unfold rdL
    rw [hb, hneg, if_neg (by omega), hall, if_neg (by simp), if_neg (fun h => hh h.1), if_pos rfl, fold_dec]
    omega
  · rename_i hn
    obtain ⟨c, r, e⟩ : ∃ c r, decDigits a.toNat = c :: r := by
      cases hh : decDigits a.toNat with
      | nil => exact absurd hh (dec_ne _)
      | cons c r => exact ⟨c, r, rfl⟩
    have hd := dec_dig a.toNat c (by rw [e]; simp)
    simp only [isDig, Bool.and_eq_true, decide_eq_true_eq] at hd
    have hneg : negL (decDigits a.toNat) = false := by
      rw [e]; simp only [negL, List.head?_cons, beq_eq_false_iff_ne, ne_eq, Option.some.injEq]
      rintro rfl; exact absurd hd.1 (by decide)
    have hb : bodyL (decDigits a.toNat) = decDigits a.toNat := by simp [bodyL, hneg]
    have hlen := dec_len a.toNat 9 (by omega)
    have hne : 0 < (decDigits a.toNat).length := List.length_pos_iff.2 (dec_ne _)
    have hall : (decDigits a.toNat).all isDig = true := List.all_eq_true.2 (dec_dig _)
    have hh : ¬ ((decDigits a.toNat).head? = some 48 ∧ (false = true ∨ (decDigits a.toNat).length > 1)) := by
      rintro ⟨h48, h | hl⟩
      · simp at h
      · by_cases hz : a.toNat = 0
        · rw [hz, dec_small (by omega)] at hl; simp at hl
        · obtain ⟨c', r', e', hc'⟩ := dec_head a.toNat hz
          rw [e'] at h48; simp only [List.head?_cons, Option.some.injEq] at h48; subst h48; exact hc' rfl
    unfold rdL
    rw [hb, hneg, if_neg (by omega), hall, if_neg (by simp), if_neg hh, if_neg (by simp), fold_dec]
    omega

theorem itoa_no (a : Int) (c : UInt8) (hc : c.toNat < 45 ∨ 57 < c.toNat) : c ∉ itoa a := by
  unfold itoa
  intro h
  split at h
  · rcases List.mem_cons.1 h with rfl | h
    · exact absurd hc (by decide)
    · have := dec_dig _ c h
      simp only [isDig, Bool.and_eq_true, decide_eq_true_eq] at this; omega
  · have := dec_dig _ c h
    simp only [isDig, Bool.and_eq_true, decide_eq_true_eq] at this; omega

theorem itoa_len (a : Int) (h0 : -2147483648 ≤ a) (h1 : a ≤ 2147483647) : (itoa a).length ≤ 11 := by
  unfold itoa
  split
  · have := dec_len a.natAbs 9 (by omega); simp only [List.length_cons]; omega
  · have := dec_len a.toNat 9 (by omega); omega

/-! Texts cut at a byte -/
def splitC (c : UInt8) : List UInt8 → List (List UInt8)
  | [] => [[]]
  | x :: r => if x = c then [] :: splitC c r else match splitC c r with
    | [] => [[x]]
    | h :: t => (x :: h) :: t

theorem splitC_ne (c : UInt8) (l : List UInt8) : splitC c l ≠ [] := by
  cases l with
  | nil => simp [splitC]
  | cons x r =>
    simp only [splitC]
    split
    · simp
    · split <;> simp

theorem splitC_len (c : UInt8) (l : List UInt8) : (splitC c l).length = l.count c + 1 := by
  induction l with
  | nil => simp [splitC]
  | cons x r ih =>
    simp only [splitC]
    split
    · rename_i h; subst h; simp [ih]
    · rename_i h
      rw [List.count_cons_of_ne (Ne.intro h)]
      split
      · rename_i h'; exact absurd h' (splitC_ne _ _)
      · rename_i h'; rw [h'] at ih; simpa using ih

theorem splitC_none {c : UInt8} {l : List UInt8} (h : c ∉ l) : splitC c l = [l] := by
  induction l with
  | nil => rfl
  | cons x r ih =>
    simp only [List.mem_cons, not_or] at h
    simp only [splitC, if_neg (Ne.symm h.1), ih h.2]

theorem splitC_app {c : UInt8} {l : List UInt8} (h : c ∉ l) (r : List UInt8) : splitC c (l ++ c :: r) = l :: splitC c r := by
  induction l with
  | nil => simp [splitC]
  | cons x l ih =>
    simp only [List.mem_cons, not_or] at h
    simp only [List.cons_append, splitC, if_neg (Ne.symm h.1), ih h.2]

theorem index_cons (c x : UInt8) (r : List UInt8) : index (x :: r) [c] = if x = c then 0 else if index r [c] == -1 then -1 else index r [c] + 1 := by
  by_cases h : x = c
  · subst h; simp [index, List.isPrefixOf]
  · have : (c == x) = false := by simp; exact fun e => h e.symm
    simp [index, List.isPrefixOf, h, this]

theorem cut_none {c : UInt8} {l : List UInt8} (h : c ∉ l) : cut l [c] = (l, [], false) := by
  have e : index l [c] = -1 := by
    induction l with
    | nil => rfl
    | cons x r ih =>
      simp only [List.mem_cons, not_or] at h
      rw [index_cons, if_neg (Ne.symm h.1), ih h.2]; rfl
  simp [cut, e]

theorem cut_app {c : UInt8} {l : List UInt8} (h : c ∉ l) (r : List UInt8) : cut (l ++ c :: r) [c] = (l, r, true) := by
  have e : index (l ++ c :: r) [c] = l.length := by
    induction l with
    | nil => simp [index_cons]
    | cons x l ih =>
      simp only [List.mem_cons, not_or] at h
      rw [List.cons_append, index_cons, if_neg (Ne.symm h.1), ih h.2]
      rw [if_neg (by simp)]; simp
  simp [cut, e]

theorem splitK_cons {c x : UInt8} (hx : x ≠ c) (k : Nat) (r : List UInt8) : ∃ h t, splitK [c] 0 k r = h :: t ∧ splitK [c] 0 k (x :: r) = (x :: h) :: t := by
  cases k with
  | zero => exact ⟨r, [], rfl, rfl⟩
  | succ k =>
    unfold splitK
    rw [index_cons, if_neg hx]
    by_cases hi : index r [c] = -1
    · simp [hi]
    · have h0 := index_ge r [c]
      have h1 : ¬ (index r [c] == -1) = true := by simp [hi]
      have h2 : ¬ (index r [c] + 1 == -1) = true := by simp; omega
      have h3 : (index r [c] + 1).toNat = (index r [c]).toNat + 1 := by omega
      rw [if_neg h1, if_neg h1, if_neg h2, h3]
      exact ⟨_, _, rfl, by simp⟩

theorem splitK_all (c : UInt8) (l : List UInt8) : ∀ k, (l.count c ≤ k → splitK [c] 0 k l = splitC c l) ∧ (k < l.count c → (splitK [c] 0 k l).length = k + 1) := by
  induction l with
  | nil =>
    intro k
    refine ⟨fun _ => ?_, fun h => absurd h (by simp)⟩
    cases k <;> rfl
  | cons x r ih =>
    intro k
    by_cases hx : x = c
    · subst hx
      cases k with
      | zero => exact ⟨fun h => absurd h (by simp), fun _ => rfl⟩
      | succ k =>
        have e : splitK [x] 0 (k + 1) (x :: r) = [] :: splitK [x] 0 k r := by
          rw [splitK, index_cons, if_pos rfl]; simp
        rw [e]
        simp only [List.count_cons_self, splitC, if_pos]
        refine ⟨fun h => ?_, fun h => ?_⟩
        · rw [(ih k).1 (by omega)]
        · rw [List.length_cons, (ih k).2 (by omega)]
    · obtain ⟨h, t, e1, e2⟩ := splitK_cons hx k r
      rw [List.count_cons_of_ne (Ne.intro hx), e2]
      have := ih k
      rw [e1] at this
      refine ⟨fun hk => ?_, fun hk => ?_⟩
      · simp only [splitC, if_neg hx, ← this.1 hk]
      · simpa using this.2 hk

/-! Steps -/
def letters : List UInt8 := [97, 98, 99, 100, 101, 102, 103, 104, 105, 106, 107, 108, 109, 110, 111, 112, 113, 114, 115, 116]
def cnt (op : Int) : Nat :=
  if op = 1 ∨ op = 2 ∨ op = 3 ∨ op = 11 ∨ op = 12 ∨ op = 14 then 1 else if op = 15 ∨ op = 16 ∨ op = 17 then 2 else 0
def limA (op : Int) : Int :=
  if op = 2 ∨ op = 3 then 8 else if op = 11 ∨ op = 12 then 40 else if op = 14 ∨ op = 15 ∨ op = 16 ∨ op = 17 then 6 else if 4 ≤ op ∧ op ≤ 20 then 1 else 0
def limB (op : Int) : Int := if op = 15 ∨ op = 16 then 4 else if op = 17 then 20 else if 2 ≤ op ∧ op ≤ 20 then 1 else 0
def okI (op a b : Int) : Bool :=
  if op = 1 then decide (-2147483648 ≤ a) && decide (a ≤ 2147483647) && decide (b = 0)
  else decide (0 ≤ a) && decide (a < limA op) && decide (0 ≤ b) && decide (b < limB op)
def tellI (op a b : Int) : List UInt8 := if cnt op = 0 then [] else if cnt op = 1 then itoa a else itoa a ++ 44 :: itoa b
def showI (op a b : Int) : List UInt8 := UInt8.ofNat (96 + op.toNat) :: tellI op a b
def shownI (op a b : Int) : List UInt8 := if okI op a b then showI op a b else []

theorem ok_op {op a b : Int} (h : okI op a b = true) : 1 ≤ op ∧ op ≤ 20 := by
  unfold okI at h
  split at h
  · omega
  · simp only [Bool.and_eq_true, decide_eq_true_eq] at h
    unfold limA at h; (repeat' split at h) <;> omega
theorem ok_a {op a b : Int} (h : okI op a b = true) : -2147483648 ≤ a ∧ a ≤ 2147483647 := by
  unfold okI at h
  split at h
  · simp only [Bool.and_eq_true, decide_eq_true_eq] at h; omega
  · simp only [Bool.and_eq_true, decide_eq_true_eq] at h
    unfold limA at h; (repeat' split at h) <;> omega
theorem ok_b {op a b : Int} (h : okI op a b = true) : 0 ≤ b ∧ b ≤ 19 := by
  unfold okI at h
  split at h
  · simp only [Bool.and_eq_true, decide_eq_true_eq] at h; omega
  · simp only [Bool.and_eq_true, decide_eq_true_eq] at h
    unfold limB at h; (repeat' split at h) <;> omega
theorem ok_b0 {op a b : Int} (h : okI op a b = true) (hc : cnt op ≠ 2) : b = 0 := by
  unfold okI at h; unfold cnt at hc
  split at h
  · simp only [Bool.and_eq_true, decide_eq_true_eq] at h; omega
  · simp only [Bool.and_eq_true, decide_eq_true_eq] at h
    unfold limB at h; (repeat' split at hc) <;> (repeat' split at h) <;> omega
theorem ok_a0 {op a b : Int} (h : okI op a b = true) (hc : cnt op = 0) : a = 0 := by
  unfold okI at h; unfold cnt at hc
  split at h
  · simp only [Bool.and_eq_true, decide_eq_true_eq] at h
    rename_i h1; simp [h1] at hc
  · simp only [Bool.and_eq_true, decide_eq_true_eq] at h
    unfold limA at h; (repeat' split at hc) <;> (repeat' split at h) <;> omega

theorem cnt_le (op : Int) : cnt op ≤ 2 := by unfold cnt; (repeat' split) <;> omega

def readI (s : List UInt8) : Option (Int × Int × Int) :=
  match s with
  | [] => none
  | c :: r =>
    let op := indexByte letters c + 1
    let a := numL (cut r [44]).1
    let b := numL (cut r [44]).2.1
    if okI op a b = true ∧ showI op a b = c :: r then some (op, a, b) else none

def readS (s : List UInt8) : Option (Int × Int × Int) :=
  match s with
  | [] => none
  | c :: r =>
    if c.toNat < 97 ∨ 116 < c.toNat then none else
    let op : Int := c.toNat - 96
    let w := splitC 44 r
    let a := if cnt op > 0 then rdL (w.getD 0 []) else 0
    let b := if cnt op > 1 ∧ w.length > 1 then rdL (w.getD 1 []) else 0
    if okI op a b = true ∧ showI op a b = c :: r then some (op, a, b) else none

theorem letter_at : ∀ k : Fin 20, indexByte letters (UInt8.ofNat (96 + (k.val + 1))) + 1 = ((k.val + 1 : Nat) : Int) ∧ (UInt8.ofNat (96 + (k.val + 1))).toNat = 96 + (k.val + 1) := by decide +kernel

theorem letter_op {op : Int} (h1 : 1 ≤ op) (h2 : op ≤ 20) : indexByte letters (UInt8.ofNat (96 + op.toNat)) + 1 = op ∧ (UInt8.ofNat (96 + op.toNat)).toNat = 96 + op.toNat := by
  obtain ⟨k, hk⟩ : ∃ k : Nat, op = ((k + 1 : Nat) : Int) := ⟨op.toNat - 1, by omega⟩
  subst hk
  have := letter_at ⟨k, by omega⟩
  simpa using this

/-- What is shown is read. -/
theorem readI_show {op a b : Int} (h : okI op a b = true) : readI (showI op a b) = some (op, a, b) := by
  have ho := ok_op h; have ha := ok_a h; have hb := ok_b h
  have hl := letter_op ho.1 ho.2
  have e : numL (cut (tellI op a b) [44]).1 = a ∧ numL (cut (tellI op a b) [44]).2.1 = b := by
    unfold tellI
    by_cases h0 : cnt op = 0
    · rw [if_pos h0, cut_none (by simp)]
      exact ⟨by rw [ok_a0 h h0]; rfl, by rw [ok_b0 h (by omega)]; rfl⟩
    · rw [if_neg h0]
      have hn : (44 : UInt8) ∉ itoa a := itoa_no a 44 (Or.inl (by decide))
      by_cases h1 : cnt op = 1
      · rw [if_pos h1, cut_none hn]
        exact ⟨num_itoa a (by omega) (by omega), by rw [ok_b0 h (by omega)]; rfl⟩
      · rw [if_neg h1, cut_app hn]
        exact ⟨num_itoa a (by omega) (by omega), num_itoa b (by omega) (by omega)⟩
  unfold showI readI
  simp only [hl.1, e.1, e.2]
  rw [if_pos ⟨h, rfl⟩]

theorem readS_show {op a b : Int} (h : okI op a b = true) : readS (showI op a b) = some (op, a, b) := by
  have ho := ok_op h; have ha := ok_a h; have hb := ok_b h
  have hl := letter_op ho.1 ho.2
  have hop : (((UInt8.ofNat (96 + op.toNat)).toNat : Int) - 96) = op := by rw [hl.2]; omega
  have hc2 := cnt_le op
  have e : (if cnt op > 0 then rdL ((splitC 44 (tellI op a b)).getD 0 []) else 0) = a ∧ (if cnt op > 1 ∧ (splitC 44 (tellI op a b)).length > 1 then rdL ((splitC 44 (tellI op a b)).getD 1 []) else 0) = b := by
    have hn : (44 : UInt8) ∉ itoa a := itoa_no a 44 (Or.inl (by decide))
    have hm : (44 : UInt8) ∉ itoa b := itoa_no b 44 (Or.inl (by decide))
    by_cases h0 : cnt op = 0
    · rw [if_neg (by omega), if_neg (by omega)]
      exact ⟨(ok_a0 h h0).symm, (ok_b0 h (by omega)).symm⟩
    · rw [if_pos (by omega)]
      by_cases h1 : cnt op = 1
      · rw [if_neg (by omega)]
        refine ⟨?_, (ok_b0 h (by omega)).symm⟩
        unfold tellI
        rw [if_neg h0, if_pos h1, splitC_none hn]
        exact rd_itoa a ha.1 ha.2
      · unfold tellI
        rw [if_neg h0, if_neg h1, splitC_app hn, splitC_none hm, if_pos ⟨by omega, by simp⟩]
        exact ⟨rd_itoa a ha.1 ha.2, rd_itoa b (by omega) (by omega)⟩
  unfold showI readS
  simp only [hop]
  rw [if_neg (by rw [hl.2]; omega), e.1, e.2, if_pos ⟨h, rfl⟩]

theorem readI_sound {s : List UInt8} {op a b : Int} (h : readI s = some (op, a, b)) : okI op a b = true ∧ showI op a b = s := by
  cases s with
  | nil => simp [readI] at h
  | cons c r =>
    simp only [readI] at h
    split at h
    · rename_i h'
      simp only [Option.some.injEq, Prod.mk.injEq] at h
      obtain ⟨rfl, rfl, rfl⟩ := h; exact h'
    · simp at h

theorem readS_sound {s : List UInt8} {op a b : Int} (h : readS s = some (op, a, b)) : okI op a b = true ∧ showI op a b = s := by
  cases s with
  | nil => simp [readS] at h
  | cons c r =>
    by_cases hc : c.toNat < 97 ∨ 116 < c.toNat
    · simp [readS, hc] at h
    · simp only [readS, if_neg hc] at h
      generalize (if cnt ((c.toNat : Int) - 96) > 0 then rdL ((splitC 44 r).getD 0 []) else 0) = x at h
      generalize (if cnt ((c.toNat : Int) - 96) > 1 ∧ (splitC 44 r).length > 1 then rdL ((splitC 44 r).getD 1 []) else 0) = y at h
      split at h
      · rename_i h'
        simp only [Option.some.injEq, Prod.mk.injEq] at h
        obtain ⟨rfl, rfl, rfl⟩ := h; exact h'
      · simp at h

theorem readS_eq (s : List UInt8) : readS s = readI s := by
  cases h : readI s with
  | some x =>
    obtain ⟨op, a, b⟩ := x
    obtain ⟨h1, rfl⟩ := readI_sound h
    exact readS_show h1
  | none =>
    cases h' : readS s with
    | none => rfl
    | some x =>
      obtain ⟨op, a, b⟩ := x
      obtain ⟨h1, rfl⟩ := readS_sound h'
      rw [readI_show h1] at h; simp at h

theorem ok_a2 {op a b : Int} (h : okI op a b = true) (hc : cnt op = 2) : 0 ≤ a ∧ a ≤ 5 := by
  unfold okI at h; unfold cnt at hc
  split at h
  · rename_i h1; simp [h1] at hc
  · simp only [Bool.and_eq_true, decide_eq_true_eq] at h
    unfold limA at h; (repeat' split at hc) <;> (repeat' split at h) <;> omega

theorem show_len {op a b : Int} (h : okI op a b = true) : (showI op a b).length ≤ 12 := by
  have ha := ok_a h; have hb := ok_b h
  have l1 := itoa_len a ha.1 ha.2
  have hc := cnt_le op
  unfold showI tellI
  simp only [List.length_cons]
  by_cases h0 : cnt op = 0
  · rw [if_pos h0]; simp
  · rw [if_neg h0]
    by_cases h1 : cnt op = 1
    · rw [if_pos h1]; omega
    · rw [if_neg h1]
      have h2 := ok_a2 h (by omega)
      have la : (itoa a).length ≤ 1 := by
        unfold itoa; rw [if_neg (by omega)]; exact dec_len _ 0 (by omega)
      have lb : (itoa b).length ≤ 2 := by
        unfold itoa; rw [if_neg (by omega)]; exact dec_len _ 1 (by omega)
      simp only [List.length_append, List.length_cons]; omega

theorem show_no {op a b : Int} (h : okI op a b = true) : (32 : UInt8) ∉ showI op a b := by
  have ho := ok_op h
  have hl := letter_op ho.1 ho.2
  have na : (32 : UInt8) ∉ itoa a := itoa_no a 32 (Or.inl (by decide))
  have nb : (32 : UInt8) ∉ itoa b := itoa_no b 32 (Or.inl (by decide))
  unfold showI tellI
  intro hm
  rcases List.mem_cons.1 hm with e | hm
  · rw [← e] at hl; have h32 : (32 : UInt8).toNat = 32 := rfl; omega
  · split at hm
    · simp at hm
    · split at hm
      · exact na hm
      · simp only [List.mem_append, List.mem_cons] at hm
        rcases hm with hm | hm | hm
        · exact na hm
        · exact absurd hm (by decide)
        · exact nb hm

theorem show_inj {op a b op' a' b' : Int} (h : okI op a b = true) (h' : okI op' a' b' = true) (e : showI op a b = showI op' a' b') : op = op' ∧ a = a' ∧ b = b' := by
  have := readI_show h; rw [e, readI_show h'] at this
  simp only [Option.some.injEq, Prod.mk.injEq] at this
  exact ⟨this.1.symm, this.2.1.symm, this.2.2.symm⟩

/-! Code -/
abbrev Ins := Int × Int × Int
def okT (i : Ins) : Bool := okI i.1 i.2.1 i.2.2
def showT (i : Ins) : List UInt8 := showI i.1 i.2.1 i.2.2
def okC (l : List Ins) : Bool := decide (l.length ≤ 40) && l.all okT
def showC (l : List Ins) : List UInt8 := join (l.map showT) [32]
def shownC (l : List Ins) : List UInt8 := if okC l then showC l else []
def allRead (p : List (List UInt8)) : Option (List Ins) := p.mapM readI
def readC (s : List UInt8) : Option (List Ins) :=
  if s = [] then some [] else if (splitC 32 s).length > 40 then none else allRead (splitC 32 s)

theorem allRead_nil : allRead [] = some [] := rfl
theorem allRead_cons (x : List UInt8) (p : List (List UInt8)) : allRead (x :: p) = match readI x with | none => none | some i => match allRead p with | none => none | some t => some (i :: t) := by
  unfold allRead
  rw [List.mapM_cons]
  cases readI x <;> simp
  rename_i i
  cases List.mapM readI p <;> simp

theorem splitC_total (c : UInt8) (l : List UInt8) : l.length + 1 = ((splitC c l).map (fun x => x.length + 1)).sum := by
  induction l with
  | nil => simp [splitC]
  | cons x r ih =>
    simp only [splitC]
    split
    · simp [ih, Nat.add_comm]
    · split
      · rename_i h'; exact absurd h' (splitC_ne _ _)
      · rename_i h'; rw [h'] at ih; simp only [List.map_cons, List.sum_cons, List.length_cons] at ih ⊢; omega

theorem allRead_sound {p : List (List UInt8)} {l : List Ins} (h : allRead p = some l) : p = l.map showT ∧ l.all okT = true := by
  induction p generalizing l with
  | nil => rw [allRead_nil] at h; injection h with h; subst h; exact ⟨rfl, rfl⟩
  | cons x p ih =>
    rw [allRead_cons] at h
    split at h
    · simp at h
    · rename_i i hi
      split at h
      · simp at h
      · rename_i t ht
        injection h with h; subst h
        obtain ⟨op, a, b⟩ := i
        have := readI_sound hi
        have h2 := ih ht
        refine ⟨?_, ?_⟩
        · rw [h2.1]; simp [showT, this.2]
        · simp only [List.all_cons, h2.2, Bool.and_true]; exact this.1

theorem allRead_show (l : List Ins) (h : l.all okT = true) : allRead (l.map showT) = some l := by
  induction l with
  | nil => rfl
  | cons i l ih =>
    obtain ⟨op, a, b⟩ := i
    simp only [List.all_cons, Bool.and_eq_true] at h
    rw [List.map_cons, allRead_cons, ih h.2]
    have : readI (showT (op, a, b)) = some (op, a, b) := readI_show h.1
    rw [this]

theorem sum_le (l : List Ins) (h : l.all okT = true) : ((l.map showT).map (fun x => x.length + 1)).sum ≤ 13 * l.length := by
  induction l with
  | nil => simp
  | cons i l ih =>
    simp only [List.all_cons, Bool.and_eq_true] at h
    have := ih h.2
    have h1 : (showT i).length ≤ 12 := show_len h.1
    simp only [List.map_cons, List.sum_cons, List.length_cons]; omega

theorem readC_len {s : List UInt8} {l : List Ins} (h : readC s = some l) : s.length ≤ 1000 := by
  unfold readC at h
  split at h
  · rename_i h0; subst h0; simp
  · split at h
    · simp at h
    · rename_i h40
      have hs := allRead_sound h
      have ht := splitC_total 32 s
      have hlen : (splitC 32 s).length = l.length := by rw [hs.1]; simp
      rw [hs.1] at ht
      have := sum_le l hs.2
      omega

theorem splitC_join (l : List Ins) (h : l.all okT = true) (hne : l ≠ []) : splitC 32 (showC l) = l.map showT := by
  induction l with
  | nil => exact absurd rfl hne
  | cons i l ih =>
    simp only [List.all_cons, Bool.and_eq_true] at h
    have hno : (32 : UInt8) ∉ showT i := show_no h.1
    cases l with
    | nil => unfold showC; rw [List.map_cons, List.map_nil, join_one, splitC_none hno]
    | cons j l =>
      have := ih h.2 (by simp)
      have e : showC (i :: j :: l) = showT i ++ 32 :: showC (j :: l) := by
        unfold showC join
        simp [List.intercalate]
      rw [e, splitC_app hno, this]; rfl

theorem readC_show (l : List Ins) (h : okC l = true) : readC (showC l) = some l := by
  unfold okC at h
  simp only [Bool.and_eq_true, decide_eq_true_eq] at h
  cases l with
  | nil => rfl
  | cons i l =>
    have hs := splitC_join (i :: l) h.2 (by simp)
    have hne : showC (i :: l) ≠ [] := by
      intro e
      have hj : showC (i :: l) = showT i ++ joinTail [32] (l.map showT) := by unfold showC; rw [List.map_cons, join_cons]
      rw [e] at hj
      have : (showT i).length = 0 := by
        have := congrArg List.length hj; simp only [List.length_nil, List.length_append] at this; omega
      simp [showT, showI] at this
    unfold readC
    rw [if_neg hne, hs, if_neg (by rw [List.length_map]; omega)]
    exact allRead_show _ h.2

theorem showC_splitC (s : List UInt8) : join (splitC 32 s) [32] = s := by
  induction s with
  | nil => rfl
  | cons x r ih =>
    simp only [splitC]
    cases hr : splitC 32 r with
    | nil => exact absurd hr (splitC_ne _ _)
    | cons h t =>
      rw [hr] at ih
      split
      · rename_i hx; subst hx
        have : join ([] :: h :: t) [32] = 32 :: join (h :: t) [32] := by
          unfold join; simp [List.intercalate, List.intersperse]
        rw [this, ih]
      · have : join ((x :: h) :: t) [32] = x :: join (h :: t) [32] := by
          rw [join_cons, join_cons]; rfl
        rw [this, ih]

theorem readC_sound {s : List UInt8} {l : List Ins} (h : readC s = some l) : okC l = true ∧ showC l = s := by
  unfold readC at h
  split at h
  · rename_i h0; subst h0; injection h with h; subst h; exact ⟨rfl, rfl⟩
  · split at h
    · simp at h
    · rename_i h40
      have hs := allRead_sound h
      refine ⟨?_, ?_⟩
      · unfold okC
        rw [hs.1, List.length_map] at h40
        simp only [hs.2, Bool.and_true, decide_eq_true_eq]; omega
      · unfold showC; rw [← hs.1, showC_splitC]

/-- The program's own split: at most forty-one pieces. -/
def piecesI (s : List UInt8) : List (List UInt8) := splitK [32] 0 (min 41 (s.length + 1) - 1) s
theorem pieces_few {s : List UInt8} (h : (splitC 32 s).length ≤ 40) : piecesI s = splitC 32 s := by
  have := splitC_len 32 s
  have hc := List.count_le_length (a := (32 : UInt8)) (l := s)
  unfold piecesI
  exact (splitK_all 32 s _).1 (by omega)
theorem pieces_many {s : List UInt8} (h : 40 < (splitC 32 s).length) : (piecesI s).length = 41 := by
  have := splitC_len 32 s
  have hc := List.count_le_length (a := (32 : UInt8)) (l := s)
  unfold piecesI
  by_cases hk : s.count 32 ≤ min 41 (s.length + 1) - 1
  · rw [(splitK_all 32 s _).1 hk]; omega
  · rw [(splitK_all 32 s _).2 (by omega)]; omega

end Tx
end Go.Proofs.YtinanjjhkddikaaGreat

/- Contracts of the two sides' tests whether a step is right. -/
namespace Go.Proofs.YtinanjjhkddikaaGreat
namespace St
open Go.ChangeShapes Go.WideShapes Go.ChangeAt Go.RowKit

theorem tup2 {a b c d : Int} (h : a = c) (k : b = d) : (#[.int .i64 a, .int .i64 b] : Array Value) = #[.int .i64 c, .int .i64 d] := by rw [h, k]

theorem op_cases (op : Int) : op = 1 ∨ op = 2 ∨ op = 3 ∨ op = 4 ∨ op = 5 ∨ op = 6 ∨ op = 7 ∨ op = 8 ∨ op = 9 ∨ op = 10 ∨ op = 11 ∨ op = 12 ∨ op = 13 ∨ op = 14 ∨ op = 15 ∨ op = 16 ∨ op = 17 ∨ op = 18 ∨ op = 19 ∨ op = 20 ∨ (op < 1 ∨ 20 < op) := by omega

theorem isBelow (n k : Int) (w : World) :
    Calls Tryz.prog 62 #[.int .i64 n, .int .i64 k] w fun e w' => e = .returned (.bool (decide (0 ≤ n) && decide (n < k))) ∧ w = w' := by
  go_enter Tryz.func62, Tryz.ntmps62
  go_wp2
  all_goals go_ret
  all_goals (simp_all; try omega)

theorem l1In (n a b : Int) (w : World) :
    Calls Tryz.prog 66 #[.int .i64 n, .int .i64 a, .int .i64 b] w fun e w' => e = .returned (.bool (decide (a ≤ n) && decide (n ≤ b))) ∧ w = w' := by
  go_enter Tryz.func66, Tryz.ntmps66
  go_wp2
  all_goals go_ret
  all_goals (simp_all; try omega)

set_option maxHeartbeats 1000000 in
theorem limits (op : Int) (w : World) :
    Calls Tryz.prog 114 #[.int .i64 op] w fun e w' => e = .returned (.tuple #[.int .i64 (Tx.limA op), .int .i64 (Tx.limB op)]) ∧ w = w' := by
  rcases op_cases op with rfl | rfl | rfl | rfl | rfl | rfl | rfl | rfl | rfl | rfl | rfl | rfl | rfl | rfl | rfl | rfl | rfl | rfl | rfl | rfl | h
  all_goals try (go_enter Tryz.func114, Tryz.ntmps114; go_wp2; go_ret2; exact ⟨rfl, rfl⟩)
  · have e : Tx.limA op = 0 ∧ Tx.limB op = 0 := by
      have n1 : ¬ op = 1 := by omega
      have n2 : ¬ op = 2 := by omega
      have n3 : ¬ op = 3 := by omega
      have n4 : ¬ op = 4 := by omega
      have n5 : ¬ op = 5 := by omega
      have n6 : ¬ op = 6 := by omega
      have n7 : ¬ op = 7 := by omega
      have n8 : ¬ op = 8 := by omega
      have n9 : ¬ op = 9 := by omega
      have n10 : ¬ op = 10 := by omega
      have n11 : ¬ op = 11 := by omega
      have n12 : ¬ op = 12 := by omega
      have n13 : ¬ op = 13 := by omega
      have n14 : ¬ op = 14 := by omega
      have n15 : ¬ op = 15 := by omega
      have n16 : ¬ op = 16 := by omega
      have n17 : ¬ op = 17 := by omega
      have n18 : ¬ op = 18 := by omega
      have n19 : ¬ op = 19 := by omega
      have n20 : ¬ op = 20 := by omega
      unfold Tx.limA Tx.limB; constructor <;> (repeat' split) <;> omega
    rw [e.1, e.2]
    clear e
    have n1 : ¬ op = 1 := by omega
    have n2 : ¬ op = 2 := by omega
    have n3 : ¬ op = 3 := by omega
    have n4 : ¬ op = 4 := by omega
    have n5 : ¬ op = 5 := by omega
    have n6 : ¬ op = 6 := by omega
    have n7 : ¬ op = 7 := by omega
    have n8 : ¬ op = 8 := by omega
    have n9 : ¬ op = 9 := by omega
    have n10 : ¬ op = 10 := by omega
    have n11 : ¬ op = 11 := by omega
    have n12 : ¬ op = 12 := by omega
    have n13 : ¬ op = 13 := by omega
    have n14 : ¬ op = 14 := by omega
    have n15 : ¬ op = 15 := by omega
    have n16 : ¬ op = 16 := by omega
    have n17 : ¬ op = 17 := by omega
    have n18 : ¬ op = 18 := by omega
    have n19 : ¬ op = 19 := by omega
    have n20 : ¬ op = 20 := by omega
    clear h
    go_enter Tryz.func114, Tryz.ntmps114
    go_wp2
    go_ret2
    exact ⟨rfl, rfl⟩

set_option maxHeartbeats 1000000 in
theorem count (op : Int) (w : World) :
    Calls Tryz.prog 109 #[.int .i64 op] w fun e w' => e = .returned (.int .i64 (Tx.cnt op)) ∧ w = w' := by
  rcases op_cases op with rfl | rfl | rfl | rfl | rfl | rfl | rfl | rfl | rfl | rfl | rfl | rfl | rfl | rfl | rfl | rfl | rfl | rfl | rfl | rfl | h
  all_goals try (go_enter Tryz.func109, Tryz.ntmps109; go_wp2; go_ret; exact ⟨rfl, rfl⟩)
  · have e : Tx.cnt op = 0 := by
      have n1 : ¬ op = 1 := by omega
      have n2 : ¬ op = 2 := by omega
      have n3 : ¬ op = 3 := by omega
      have n4 : ¬ op = 4 := by omega
      have n5 : ¬ op = 5 := by omega
      have n6 : ¬ op = 6 := by omega
      have n7 : ¬ op = 7 := by omega
      have n8 : ¬ op = 8 := by omega
      have n9 : ¬ op = 9 := by omega
      have n10 : ¬ op = 10 := by omega
      have n11 : ¬ op = 11 := by omega
      have n12 : ¬ op = 12 := by omega
      have n13 : ¬ op = 13 := by omega
      have n14 : ¬ op = 14 := by omega
      have n15 : ¬ op = 15 := by omega
      have n16 : ¬ op = 16 := by omega
      have n17 : ¬ op = 17 := by omega
      have n18 : ¬ op = 18 := by omega
      have n19 : ¬ op = 19 := by omega
      have n20 : ¬ op = 20 := by omega
      unfold Tx.cnt; (repeat' split) <;> omega
    rw [e]
    clear e
    have n1 : ¬ op = 1 := by omega
    have n2 : ¬ op = 2 := by omega
    have n3 : ¬ op = 3 := by omega
    have n4 : ¬ op = 4 := by omega
    have n5 : ¬ op = 5 := by omega
    have n6 : ¬ op = 6 := by omega
    have n7 : ¬ op = 7 := by omega
    have n8 : ¬ op = 8 := by omega
    have n9 : ¬ op = 9 := by omega
    have n10 : ¬ op = 10 := by omega
    have n11 : ¬ op = 11 := by omega
    have n12 : ¬ op = 12 := by omega
    have n13 : ¬ op = 13 := by omega
    have n14 : ¬ op = 14 := by omega
    have n15 : ¬ op = 15 := by omega
    have n16 : ¬ op = 16 := by omega
    have n17 : ¬ op = 17 := by omega
    have n18 : ¬ op = 18 := by omega
    have n19 : ¬ op = 19 := by omega
    have n20 : ¬ op = 20 := by omega
    clear h
    go_enter Tryz.func109, Tryz.ntmps109
    go_wp2
    go_ret
    exact ⟨rfl, rfl⟩

end St
end Go.Proofs.YtinanjjhkddikaaGreat
