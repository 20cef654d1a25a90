/- The contracts of the two sides of WordOk, and the plain facts on words. -/
import Derived.Test.YtinanjjhkddikaaGreatRows
import Derived.WalkKit
import Derived.ProofKit
import Derived.OpenShut
import Derived.Lib.ItoaMem
import Derived.Lib.ItoaLen
import Derived.Lib.ParseIntBTie
import Derived.Lib.Split
import Derived.Lib.Join
import Derived.Handy
import Derived.Deep.RegionWith
import Derived.Lib.QuietBelow
import Derived.Laws.OwnMore
namespace Go.Proofs.YtinanjjhkddikaaGreat
namespace Wd
open Go.ChangeShapes Go.WideShapes Go.ChangeAt Go.RowKit

def okB (n : Int) : Bool := decide (-2147483648 ≤ n) && decide (n ≤ 2147483647)

theorem ok_yes {n : Int} (h : okB n = true) : -2147483648 ≤ n ∧ n ≤ 2147483647 := by
  simpa [okB] using h
theorem ok_no {n : Int} (h : okB n = false) : n < -2147483648 ∨ 2147483647 < n := by
  simp [okB] at h
  omega
theorem wrap_bd (n : Int) : -2147483648 ≤ wrap32 n ∧ wrap32 n ≤ 2147483647 := by
  unfold wrap32; omega
theorem wrap_ne {n : Int} (h : okB n = false) : (wrap32 n == n) = false := by
  have h1 := ok_no h
  have h2 := wrap_bd n
  simp; omega
theorem wrap_eq {n : Int} (h : okB n = true) : wrap32 n = n := by
  have h1 := ok_yes h
  unfold wrap32; omega
theorem wrap_ok (n : Int) : okB (wrap32 n) = true := by
  have h := wrap_bd n
  simp [okB, h]

theorem w32_64 (n : Int) : wrap32 (wrap64 n) = wrap32 n := by
  unfold wrap32 wrap64; omega
theorem ret_int {k : IntKind} {a b : Int} (h : a = b) : Ending.returned (.int k a) = .returned (.int k b) := by rw [h]

def plusF (a b : Int) : Int := if okB a && okB b then wrap32 (a + b) else 0
def minusF (a b : Int) : Int := if okB a && okB b then wrap32 (a - b) else 0
def timesF (a b : Int) : Int := if okB a && okB b then wrap32 (a * b) else 0
def overB (a b : Int) : Bool := okB a && okB b && !(b == 0)
def overF (a b : Int) : Int := if overB a b then wrap32 (a.tdiv b) else 0

theorem implWrap (n : Int) (w : World) :
    Calls Tryz.prog 117 #[.int .i64 n] w fun e w' => e = .returned (.int .i64 (wrap32 n)) ∧ w = w' := by
  have hb := (wrap_bd n).1
  have hc := (wrap_bd n).2
  go_enter Tryz.func117, Tryz.ntmps117
  go_wp2
  go_ret
  exact ⟨rfl, rfl⟩
theorem implWordOk (n : Int) (w : World) :
    Calls Tryz.prog 113 #[.int .i64 n] w fun e w' => e = .returned (.bool (okB n)) ∧ w = w' := by
  have hb := (wrap_bd n).1
  have hc := (wrap_bd n).2
  cases h : okB n
  · have h1 := wrap_ne h
    clear h
    go_enter Tryz.func113, Tryz.ntmps113
    go_wp2
    go_ret
    exact ⟨rfl, rfl⟩
  · have h1 := (ok_yes h).1
    have h2 := (ok_yes h).2
    clear h
    go_enter Tryz.func113, Tryz.ntmps113
    go_wp2
    go_ret
    exact ⟨rfl, rfl⟩
theorem specWordOk (n : Int) (w : World) :
    Calls Tryz.prog 110 #[.int .i64 n] w fun e w' => e = .returned (.bool (okB n)) ∧ w = w' := by
  by_cases h1 : -2147483648 ≤ n
  · by_cases h2 : n ≤ 2147483647
    · have e : okB n = true := by simp [okB, h1, h2]
      rw [e]
      clear e
      go_enter Tryz.func110, Tryz.ntmps110
      go_wp2
      go_ret
      exact ⟨rfl, rfl⟩
    · have e : okB n = false := by simp [okB, h2]
      rw [e]
      clear e
      go_enter Tryz.func110, Tryz.ntmps110
      go_wp2
      go_ret
      exact ⟨rfl, rfl⟩
  · have e : okB n = false := by simp [okB, h1]
    rw [e]
    clear e
    go_enter Tryz.func110, Tryz.ntmps110
    go_wp2
    go_ret
    exact ⟨rfl, rfl⟩

end Wd
end Go.Proofs.YtinanjjhkddikaaGreat

/- Plain facts on texts: numerals read back, texts cut at a byte, steps shown and read. No program in it. -/
namespace Go.Proofs.YtinanjjhkddikaaGreat
namespace Tx
open Go.Lib

/-! Digits -/
def isDig (c : UInt8) : Bool := decide (48 ≤ c.toNat) && decide (c.toNat ≤ 57)

theorem ofNat_dig (k : Nat) (h : k < 10) : (UInt8.ofNat (48 + k)).toNat = 48 + k := by
  simp [UInt8.toNat_ofNat']; omega

theorem dec_small {u : Nat} (h : u < 10) : decDigits u = [UInt8.ofNat (48 + u)] := by rw [decDigits, dif_pos h]
theorem dec_big {u : Nat} (h : ¬ u < 10) : decDigits u = decDigits (u / 10) ++ [UInt8.ofNat (48 + u % 10)] := by rw [decDigits, dif_neg h]

theorem dec_dig (u : Nat) : ∀ c ∈ decDigits u, isDig c = true := by
  induction u using Nat.strongRecOn with
  | _ u ih =>
    by_cases h : u < 10
    · rw [dec_small h]; intro c hc
      simp only [List.mem_singleton] at hc; subst hc
      have := ofNat_dig u h
      simp only [isDig, this, Bool.and_eq_true, decide_eq_true_eq]; omega
    · rw [dec_big h]; intro c hc
      rcases List.mem_append.1 hc with hc | hc
      · exact ih (u / 10) (by omega) c hc
      · simp only [List.mem_singleton] at hc; subst hc
        have := ofNat_dig (u % 10) (by omega)
        simp only [isDig, this, Bool.and_eq_true, decide_eq_true_eq]; omega

theorem dec_ne (u : Nat) : decDigits u ≠ [] := by
  by_cases h : u < 10
  · rw [dec_small h]; simp
  · rw [dec_big h]; simp

theorem dec_len (u k : Nat) (h : u < 10 ^ (k + 1)) : (decDigits u).length ≤ k + 1 := by
  induction k generalizing u with
  | zero => rw [dec_small (by simpa using h)]; simp
  | succ k ih =>
    by_cases hu : u < 10
    · rw [dec_small hu]; simp
    · rw [dec_big hu]
      have := ih (u / 10) (by rw [Nat.pow_succ] at h; omega)
      simp only [List.length_append, List.length_singleton]; omega

/-- The first digit is no nought but in nought itself. -/
theorem dec_head (u : Nat) (h : u ≠ 0) : ∃ c r, decDigits u = c :: r ∧ c.toNat ≠ 48 := by
  induction u using Nat.strongRecOn with
  | _ u ih =>
    by_cases hu : u < 10
    · exact ⟨_, [], dec_small hu, by rw [ofNat_dig u hu]; omega⟩
    · obtain ⟨c, r, e, hc⟩ := ih (u / 10) (by omega) (by omega)
      exact ⟨c, r ++ [UInt8.ofNat (48 + u % 10)], by rw [dec_big hu, e]; rfl, hc⟩

theorem parse_app (M : Nat) (l r : List UInt8) : ∀ acc, parseUintM M acc (l ++ r) = match parseUintM M acc l with | .ok a => parseUintM M a r | .syntax => .syntax | .range => .range := by
  induction l with
  | nil => intro acc; rfl
  | cons c l ih =>
    intro acc
    simp only [List.cons_append, parseUintM]
    split
    · split
      · rfl
      · split
        · rfl
        · exact ih _
    · rfl

theorem parse_dec (u : Nat) (h : u ≤ 18446744073709551615) : parseUintM 18446744073709551615 0 (decDigits u) = .ok u := by
  induction u using Nat.strongRecOn with
  | _ u ih =>
    by_cases hu : u < 10
    · rw [dec_small hu]
      have := ofNat_dig u hu
      simp only [parseUintM, this]
      rw [if_pos (by omega), if_neg (by omega), if_neg (by omega)]
      congr 1; omega
    · rw [dec_big hu, parse_app, ih (u / 10) (by omega) (by omega)]
      have := ofNat_dig (u % 10) (by omega)
      simp only [parseUintM, this]
      rw [if_pos (by omega), if_neg (by omega), if_neg (by omega)]
      congr 1; omega

/-- What the program takes a piece of text for. -/
def numL (l : List UInt8) : Int := match parseIntB 64 l with | .ok v => v | .syntax => 0 | .range => intSat 64 l

theorem num_nil : numL [] = 0 := rfl

theorem num_itoa (a : Int) (h0 : -9223372036854775808 ≤ a) (h1 : a ≤ 9223372036854775807) : numL (itoa a) = a := by
  have e64 : (2 ^ 64 - 1 : Nat) = 18446744073709551615 := by decide
  have e63 : (2 ^ (64 - 1) : Nat) = 9223372036854775808 := by decide
  suffices h : parseIntB 64 (itoa a) = .ok a by unfold numL; rw [h]
  unfold itoa
  split
  · rename_i hn
    have hp := parse_dec a.natAbs (by omega)
    simp only [parseIntB]
    rw [if_pos (by decide)]
    unfold parseUintB
    rw [if_neg (dec_ne _), e64, hp, e63]
    simp only
    rw [if_neg (by simp), if_neg (by omega)]
    simp; omega
  · rename_i hn
    have hp := parse_dec a.toNat (by omega)
    obtain ⟨c, r, e⟩ : ∃ c r, decDigits a.toNat = c :: r := by
      cases hh : decDigits a.toNat with
      | nil => exact absurd hh (dec_ne _)
      | cons c r => exact ⟨c, r, rfl⟩
    have hd := dec_dig a.toNat c (by rw [e]; simp)
    simp only [isDig, Bool.and_eq_true, decide_eq_true_eq] at hd
    rw [e] at hp ⊢
    simp only [parseIntB]
    rw [if_neg (by omega)]
    unfold parseUintB
    rw [if_neg (by simp), e64, hp, e63]
    simp only
    rw [if_neg (by omega), if_neg (by omega), if_neg (by omega)]
    congr 1; omega

/-! The reader of the other side -/
def foldN (l : List UInt8) : Nat := l.foldl (fun n c => n * 10 + (c.toNat - 48)) 0
theorem fold_dec (u : Nat) : foldN (decDigits u) = u := by
  induction u using Nat.strongRecOn with
  | _ u ih =>
    by_cases hu : u < 10
    · rw [dec_small hu]; simp only [foldN, List.foldl_cons, List.foldl_nil, ofNat_dig u hu]; omega
    · rw [dec_big hu]
      have := ih (u / 10) (by omega)
      unfold foldN at this ⊢
      rw [List.foldl_append, this]
      simp only [List.foldl_cons, List.foldl_nil, ofNat_dig (u % 10) (by omega)]; omega

def negL (l : List UInt8) : Bool := l.head? == some 45
def bodyL (l : List UInt8) : List UInt8 := if negL l then l.tail else l
def rdL (l : List UInt8) : Int :=
  if (bodyL l).length < 1 ∨ (bodyL l).length > 10 then 0
  else if (bodyL l).all isDig = false then 0
  else if (bodyL l).head? = some 48 ∧ (negL l = true ∨ l.length > 1) then 0
  else if negL l then -(foldN (bodyL l) : Int) else foldN (bodyL l)

theorem rd_itoa (a : Int) (h0 : -2147483648 ≤ a) (h1 : a ≤ 2147483647) : rdL (itoa a) = a := by
  unfold itoa
  split
  · rename_i hn
    have hneg : negL (45 :: decDigits a.natAbs) = true := by simp [negL]
    have hb : bodyL (45 :: decDigits a.natAbs) = decDigits a.natAbs := by simp [bodyL, hneg]
    have hlen := dec_len a.natAbs 9 (by omega)
    have hne : 0 < (decDigits a.natAbs).length := List.length_pos_iff.2 (dec_ne _)
    have hall : (decDigits a.natAbs).all isDig = true := List.all_eq_true.2 (dec_dig _)
    obtain ⟨c, r, e, hc⟩ := dec_head a.natAbs (by omega)
    have hh : (decDigits a.natAbs).head? ≠ some 48 := by
      rw [e]; intro hh; simp only [List.head?_cons, Option.some.injEq] at hh; subst hh; exact hc rfl
    unfold rdL
    rw [hb, hneg, if_neg (by omega), hall, if_neg (by simp), if_neg (fun h => hh h.1), if_pos rfl, fold_dec]
    omega
  · rename_i hn
    obtain ⟨c, r, e⟩ : ∃ c r, decDigits a.toNat = c :: r := by
      cases hh : decDigits a.toNat with
      | nil => exact absurd hh (dec_ne _)
      | cons c r => exact ⟨c, r, rfl⟩
    have hd := dec_dig a.toNat c (by rw [e]; simp)
    simp only [isDig, Bool.and_eq_true, decide_eq_true_eq] at hd
    have hneg : negL (decDigits a.toNat) = false := by
      rw [e]; simp only [negL, List.head?_cons, beq_eq_false_iff_ne, ne_eq, Option.some.injEq]
      rintro rfl; exact absurd hd.1 (by decide)
    have hb : bodyL (decDigits a.toNat) = decDigits a.toNat := by simp [bodyL, hneg]
    have hlen := dec_len a.toNat 9 (by omega)
    have hne : 0 < (decDigits a.toNat).length := List.length_pos_iff.2 (dec_ne _)
    have hall : (decDigits a.toNat).all isDig = true := List.all_eq_true.2 (dec_dig _)
    have hh : ¬ ((decDigits a.toNat).head? = some 48 ∧ (false = true ∨ (decDigits a.toNat).length > 1)) := by
      rintro ⟨h48, h | hl⟩
      · simp at h
      · by_cases hz : a.toNat = 0
        · rw [hz, dec_small (by omega)] at hl; simp at hl
        · obtain ⟨c', r', e', hc'⟩ := dec_head a.toNat hz
          rw [e'] at h48; simp only [List.head?_cons, Option.some.injEq] at h48; subst h48; exact hc' rfl
    unfold rdL
    rw [hb, hneg, if_neg (by omega), hall, if_neg (by simp), if_neg hh, if_neg (by simp), fold_dec]
    omega

theorem itoa_no (a : Int) (c : UInt8) (hc : c.toNat < 45 ∨ 57 < c.toNat) : c ∉ itoa a := by
  unfold itoa
  intro h
  split at h
  · rcases List.mem_cons.1 h with rfl | h
    · exact absurd hc (by decide)
    · have := dec_dig _ c h
      simp only [isDig, Bool.and_eq_true, decide_eq_true_eq] at this; omega
  · have := dec_dig _ c h
    simp only [isDig, Bool.and_eq_true, decide_eq_true_eq] at this; omega

theorem itoa_len (a : Int) (h0 : -2147483648 ≤ a) (h1 : a ≤ 2147483647) : (itoa a).length ≤ 11 := by
  unfold itoa
  split
  · have := dec_len a.natAbs 9 (by omega); simp only [List.length_cons]; omega
  · have := dec_len a.toNat 9 (by omega); omega

/-! Texts cut at a byte -/
def splitC (c : UInt8) : List UInt8 → List (List UInt8)
  | [] => [[]]
  | x :: r => if x = c then [] :: splitC c r else match splitC c r with
    | [] => [[x]]
    | h :: t => (x :: h) :: t

theorem splitC_ne (c : UInt8) (l : List UInt8) : splitC c l ≠ [] := by
  cases l with
  | nil => simp [splitC]
  | cons x r =>
    simp only [splitC]
    split
    · simp
    · split <;> simp

theorem splitC_len (c : UInt8) (l : List UInt8) : (splitC c l).length = l.count c + 1 := by
  induction l with
  | nil => simp [splitC]
  | cons x r ih =>
    simp only [splitC]
    split
    · rename_i h; subst h; simp [ih]
    · rename_i h
      rw [List.count_cons_of_ne (Ne.intro h)]
      split
      · rename_i h'; exact absurd h' (splitC_ne _ _)
      · rename_i h'; rw [h'] at ih; simpa using ih

theorem splitC_none {c : UInt8} {l : List UInt8} (h : c ∉ l) : splitC c l = [l] := by
  induction l with
  | nil => rfl
  | cons x r ih =>
    simp only [List.mem_cons, not_or] at h
    simp only [splitC, if_neg (Ne.symm h.1), ih h.2]

theorem splitC_app {c : UInt8} {l : List UInt8} (h : c ∉ l) (r : List UInt8) : splitC c (l ++ c :: r) = l :: splitC c r := by
  induction l with
  | nil => simp [splitC]
  | cons x l ih =>
    simp only [List.mem_cons, not_or] at h
    simp only [List.cons_append, splitC, if_neg (Ne.symm h.1), ih h.2]

theorem index_cons (c x : UInt8) (r : List UInt8) : index (x :: r) [c] = if x = c then 0 else if index r [c] == -1 then -1 else index r [c] + 1 := by
  by_cases h : x = c
  · subst h; simp [index, List.isPrefixOf]
  · have : (c == x) = false := by simp; exact fun e => h e.symm
    simp [index, List.isPrefixOf, h, this]

theorem cut_none {c : UInt8} {l : List UInt8} (h : c ∉ l) : cut l [c] = (l, [], false) := by
  have e : index l [c] = -1 := by
    induction l with
    | nil => rfl
    | cons x r ih =>
      simp only [List.mem_cons, not_or] at h
      rw [index_cons, if_neg (Ne.symm h.1), ih h.2]; rfl
  simp [cut, e]

theorem cut_app {c : UInt8} {l : List UInt8} (h : c ∉ l) (r : List UInt8) : cut (l ++ c :: r) [c] = (l, r, true) := by
  have e : index (l ++ c :: r) [c] = l.length := by
    induction l with
    | nil => simp [index_cons]
    | cons x l ih =>
      simp only [List.mem_cons, not_or] at h
      rw [List.cons_append, index_cons, if_neg (Ne.symm h.1), ih h.2]
      rw [if_neg (by simp)]; simp
  simp [cut, e]

theorem splitK_cons {c x : UInt8} (hx : x ≠ c) (k : Nat) (r : List UInt8) : ∃ h t, splitK [c] 0 k r = h :: t ∧ splitK [c] 0 k (x :: r) = (x :: h) :: t := by
  cases k with
  | zero => exact ⟨r, [], rfl, rfl⟩
  | succ k =>
    unfold splitK
    rw [index_cons, if_neg hx]
    by_cases hi : index r [c] = -1
    · simp [hi]
    · have h0 := index_ge r [c]
      have h1 : ¬ (index r [c] == -1) = true := by simp [hi]
      have h2 : ¬ (index r [c] + 1 == -1) = true := by simp; omega
      have h3 : (index r [c] + 1).toNat = (index r [c]).toNat + 1 := by omega
      rw [if_neg h1, if_neg h1, if_neg h2, h3]
      exact ⟨_, _, rfl, by simp⟩

theorem splitK_all (c : UInt8) (l : List UInt8) : ∀ k, (l.count c ≤ k → splitK [c] 0 k l = splitC c l) ∧ (k < l.count c → (splitK [c] 0 k l).length = k + 1) := by
  induction l with
  | nil =>
    intro k
    refine ⟨fun _ => ?_, fun h => absurd h (by simp)⟩
    cases k <;> rfl
  | cons x r ih =>
    intro k
    by_cases hx : x = c
    · subst hx
      cases k with
      | zero => exact ⟨fun h => absurd h (by simp), fun _ => rfl⟩
      | succ k =>
        have e : splitK [x] 0 (k + 1) (x :: r) = [] :: splitK [x] 0 k r := by
          rw [splitK, index_cons, if_pos rfl]; simp
        rw [e]
        simp only [List.count_cons_self, splitC, if_pos]
        refine ⟨fun h => ?_, fun h => ?_⟩
        · rw [(ih k).1 (by omega)]
        · rw [List.length_cons, (ih k).2 (by omega)]
    · obtain ⟨h, t, e1, e2⟩ := splitK_cons hx k r
      rw [List.count_cons_of_ne (Ne.intro hx), e2]
      have := ih k
      rw [e1] at this
      refine ⟨fun hk => ?_, fun hk => ?_⟩
      · simp only [splitC, if_neg hx, ← this.1 hk]
      · simpa using this.2 hk

/-! Steps -/
def letters : List UInt8 := [97, 98, 99, 100, 101, 102, 103, 104, 105, 106, 107, 108, 109, 110, 111, 112, 113, 114, 115, 116]
def cnt (op : Int) : Nat :=
  if op = 1 ∨ op = 2 ∨ op = 3 ∨ op = 11 ∨ op = 12 ∨ op = 14 then 1 else if op = 15 ∨ op = 16 ∨ op = 17 then 2 else 0
def limA (op : Int) : Int :=
  if op = 2 ∨ op = 3 then 8 else if op = 11 ∨ op = 12 then 40 else if op = 14 ∨ op = 15 ∨ op = 16 ∨ op = 17 then 6 else if 4 ≤ op ∧ op ≤ 20 then 1 else 0
def limB (op : Int) : Int := if op = 15 ∨ op = 16 then 4 else if op = 17 then 20 else if 2 ≤ op ∧ op ≤ 20 then 1 else 0
def okI (op a b : Int) : Bool :=
  if op = 1 then decide (-2147483648 ≤ a) && decide (a ≤ 2147483647) && decide (b = 0)
  else decide (0 ≤ a) && decide (a < limA op) && decide (0 ≤ b) && decide (b < limB op)
def tellI (op a b : Int) : List UInt8 := if cnt op = 0 then [] else if cnt op = 1 then itoa a else itoa a ++ 44 :: itoa b
def showI (op a b : Int) : List UInt8 := UInt8.ofNat (96 + op.toNat) :: tellI op a b
def shownI (op a b : Int) : List UInt8 := if okI op a b then showI op a b else []

theorem ok_op {op a b : Int} (h : okI op a b = true) : 1 ≤ op ∧ op ≤ 20 := by
  unfold okI at h
  split at h
  · omega
  · simp only [Bool.and_eq_true, decide_eq_true_eq] at h
    unfold limA at h; (repeat' split at h) <;> omega
theorem ok_a {op a b : Int} (h : okI op a b = true) : -2147483648 ≤ a ∧ a ≤ 2147483647 := by
  unfold okI at h
  split at h
  · simp only [Bool.and_eq_true, decide_eq_true_eq] at h; omega
  · simp only [Bool.and_eq_true, decide_eq_true_eq] at h
    unfold limA at h; (repeat' split at h) <;> omega
theorem ok_b {op a b : Int} (h : okI op a b = true) : 0 ≤ b ∧ b ≤ 19 := by
  unfold okI at h
  split at h
  · simp only [Bool.and_eq_true, decide_eq_true_eq] at h; omega
  · simp only [Bool.and_eq_true, decide_eq_true_eq] at h
    unfold limB at h; (repeat' split at h) <;> omega
theorem ok_b0 {op a b : Int} (h : okI op a b = true) (hc : cnt op ≠ 2) : b = 0 := by
  unfold okI at h; unfold cnt at hc
  split at h
  · simp only [Bool.and_eq_true, decide_eq_true_eq] at h; omega
  · simp only [Bool.and_eq_true, decide_eq_true_eq] at h
    unfold limB at h; (repeat' split at hc) <;> (repeat' split at h) <;> omega
theorem ok_a0 {op a b : Int} (h : okI op a b = true) (hc : cnt op = 0) : a = 0 := by
  unfold okI at h; unfold cnt at hc
  split at h
  · simp only [Bool.and_eq_true, decide_eq_true_eq] at h
    rename_i h1; simp [h1] at hc
  · simp only [Bool.and_eq_true, decide_eq_true_eq] at h
    unfold limA at h; (repeat' split at hc) <;> (repeat' split at h) <;> omega

theorem cnt_le (op : Int) : cnt op ≤ 2 := by unfold cnt; (repeat' split) <;> omega

def readI (s : List UInt8) : Option (Int × Int × Int) :=
  match s with
  | [] => none
  | c :: r =>
    let op := indexByte letters c + 1
    let a := numL (cut r [44]).1
    let b := numL (cut r [44]).2.1
    if okI op a b = true ∧ showI op a b = c :: r then some (op, a, b) else none

def readS (s : List UInt8) : Option (Int × Int × Int) :=
  match s with
  | [] => none
  | c :: r =>
    if c.toNat < 97 ∨ 116 < c.toNat then none else
    let op : Int := c.toNat - 96
    let w := splitC 44 r
    let a := if cnt op > 0 then rdL (w.getD 0 []) else 0
    let b := if cnt op > 1 ∧ w.length > 1 then rdL (w.getD 1 []) else 0
    if okI op a b = true ∧ showI op a b = c :: r then some (op, a, b) else none

theorem letter_at : ∀ k : Fin 20, indexByte letters (UInt8.ofNat (96 + (k.val + 1))) + 1 = ((k.val + 1 : Nat) : Int) ∧ (UInt8.ofNat (96 + (k.val + 1))).toNat = 96 + (k.val + 1) := by decide +kernel

theorem letter_op {op : Int} (h1 : 1 ≤ op) (h2 : op ≤ 20) : indexByte letters (UInt8.ofNat (96 + op.toNat)) + 1 = op ∧ (UInt8.ofNat (96 + op.toNat)).toNat = 96 + op.toNat := by
  obtain ⟨k, hk⟩ : ∃ k : Nat, op = ((k + 1 : Nat) : Int) := ⟨op.toNat - 1, by omega⟩
  subst hk
  have := letter_at ⟨k, by omega⟩
  simpa using this

/-- What is shown is read. -/
theorem readI_show {op a b : Int} (h : okI op a b = true) : readI (showI op a b) = some (op, a, b) := by
  have ho := ok_op h; have ha := ok_a h; have hb := ok_b h
  have hl := letter_op ho.1 ho.2
  have e : numL (cut (tellI op a b) [44]).1 = a ∧ numL (cut (tellI op a b) [44]).2.1 = b := by
    unfold tellI
    by_cases h0 : cnt op = 0
    · rw [if_pos h0, cut_none (by simp)]
      exact ⟨by rw [ok_a0 h h0]; rfl, by rw [ok_b0 h (by omega)]; rfl⟩
    · rw [if_neg h0]
      have hn : (44 : UInt8) ∉ itoa a := itoa_no a 44 (Or.inl (by decide))
      by_cases h1 : cnt op = 1
      · rw [if_pos h1, cut_none hn]
        exact ⟨num_itoa a (by omega) (by omega), by rw [ok_b0 h (by omega)]; rfl⟩
      · rw [if_neg h1, cut_app hn]
        exact ⟨num_itoa a (by omega) (by omega), num_itoa b (by omega) (by omega)⟩
  unfold showI readI
  simp only [hl.1, e.1, e.2]
  rw [if_pos ⟨h, rfl⟩]

theorem readS_show {op a b : Int} (h : okI op a b = true) : readS (showI op a b) = some (op, a, b) := by
  have ho := ok_op h; have ha := ok_a h; have hb := ok_b h
  have hl := letter_op ho.1 ho.2
  have hop : (((UInt8.ofNat (96 + op.toNat)).toNat : Int) - 96) = op := by rw [hl.2]; omega
  have hc2 := cnt_le op
  have e : (if cnt op > 0 then rdL ((splitC 44 (tellI op a b)).getD 0 []) else 0) = a ∧ (if cnt op > 1 ∧ (splitC 44 (tellI op a b)).length > 1 then rdL ((splitC 44 (tellI op a b)).getD 1 []) else 0) = b := by
    have hn : (44 : UInt8) ∉ itoa a := itoa_no a 44 (Or.inl (by decide))
    have hm : (44 : UInt8) ∉ itoa b := itoa_no b 44 (Or.inl (by decide))
    by_cases h0 : cnt op = 0
    · rw [if_neg (by omega), if_neg (by omega)]
      exact ⟨(ok_a0 h h0).symm, (ok_b0 h (by omega)).symm⟩
    · rw [if_pos (by omega)]
      by_cases h1 : cnt op = 1
      · rw [if_neg (by omega)]
        refine ⟨?_, (ok_b0 h (by omega)).symm⟩
        unfold tellI
        rw [if_neg h0, if_pos h1, splitC_none hn]
        exact rd_itoa a ha.1 ha.2
      · unfold tellI
        rw [if_neg h0, if_neg h1, splitC_app hn, splitC_none hm, if_pos ⟨by omega, by simp⟩]
        exact ⟨rd_itoa a ha.1 ha.2, rd_itoa b (by omega) (by omega)⟩
  unfold showI readS
  simp only [hop]
  rw [if_neg (by rw [hl.2]; omega), e.1, e.2, if_pos ⟨h, rfl⟩]

theorem readI_sound {s : List UInt8} {op a b : Int} (h : readI s = some (op, a, b)) : okI op a b = true ∧ showI op a b = s := by
  cases s with
  | nil => simp [readI] at h
  | cons c r =>
    simp only [readI] at h
    split at h
    · rename_i h'
      simp only [Option.some.injEq, Prod.mk.injEq] at h
      obtain ⟨rfl, rfl, rfl⟩ := h; exact h'
    · simp at h

theorem readS_sound {s : List UInt8} {op a b : Int} (h : readS s = some (op, a, b)) : okI op a b = true ∧ showI op a b = s := by
  cases s with
  | nil => simp [readS] at h
  | cons c r =>
    by_cases hc : c.toNat < 97 ∨ 116 < c.toNat
    · simp [readS, hc] at h
    · simp only [readS, if_neg hc] at h
      generalize (if cnt ((c.toNat : Int) - 96) > 0 then rdL ((splitC 44 r).getD 0 []) else 0) = x at h
      generalize (if cnt ((c.toNat : Int) - 96) > 1 ∧ (splitC 44 r).length > 1 then rdL ((splitC 44 r).getD 1 []) else 0) = y at h
      split at h
      · rename_i h'
        simp only [Option.some.injEq, Prod.mk.injEq] at h
        obtain ⟨rfl, rfl, rfl⟩ := h; exact h'
      · simp at h

theorem readS_eq (s : List UInt8) : readS s = readI s := by
  cases h : readI s with
  | some x =>
    obtain ⟨op, a, b⟩ := x
    obtain ⟨h1, rfl⟩ := readI_sound h
    exact readS_show h1
  | none =>
    cases h' : readS s with
    | none => rfl
    | some x =>
      obtain ⟨op, a, b⟩ := x
      obtain ⟨h1, rfl⟩ := readS_sound h'
      rw [readI_show h1] at h; simp at h

theorem ok_a2 {op a b : Int} (h : okI op a b = true) (hc : cnt op = 2) : 0 ≤ a ∧ a ≤ 5 := by
  unfold okI at h; unfold cnt at hc
  split at h
  · rename_i h1; simp [h1] at hc
  · simp only [Bool.and_eq_true, decide_eq_true_eq] at h
    unfold limA at h; (repeat' split at hc) <;> (repeat' split at h) <;> omega

theorem show_len {op a b : Int} (h : okI op a b = true) : (showI op a b).length ≤ 12 := by
  have ha := ok_a h; have hb := ok_b h
  have l1 := itoa_len a ha.1 ha.2
  have hc := cnt_le op
  unfold showI tellI
  simp only [List.length_cons]
  by_cases h0 : cnt op = 0
  · rw [if_pos h0]; simp
  · rw [if_neg h0]
    by_cases h1 : cnt op = 1
    · rw [if_pos h1]; omega
    · rw [if_neg h1]
      have h2 := ok_a2 h (by omega)
      have la : (itoa a).length ≤ 1 := by
        unfold itoa; rw [if_neg (by omega)]; exact dec_len _ 0 (by omega)
      have lb : (itoa b).length ≤ 2 := by
        unfold itoa; rw [if_neg (by omega)]; exact dec_len _ 1 (by omega)
      simp only [List.length_append, List.length_cons]; omega

theorem show_no {op a b : Int} (h : okI op a b = true) : (32 : UInt8) ∉ showI op a b := by
  have ho := ok_op h
  have hl := letter_op ho.1 ho.2
  have na : (32 : UInt8) ∉ itoa a := itoa_no a 32 (Or.inl (by decide))
  have nb : (32 : UInt8) ∉ itoa b := itoa_no b 32 (Or.inl (by decide))
  unfold showI tellI
  intro hm
  rcases List.mem_cons.1 hm with e | hm
  · rw [← e] at hl; have h32 : (32 : UInt8).toNat = 32 := rfl; omega
  · split at hm
    · simp at hm
    · split at hm
      · exact na hm
      · simp only [List.mem_append, List.mem_cons] at hm
        rcases hm with hm | hm | hm
        · exact na hm
        · exact absurd hm (by decide)
        · exact nb hm

theorem show_inj {op a b op' a' b' : Int} (h : okI op a b = true) (h' : okI op' a' b' = true) (e : showI op a b = showI op' a' b') : op = op' ∧ a = a' ∧ b = b' := by
  have := readI_show h; rw [e, readI_show h'] at this
  simp only [Option.some.injEq, Prod.mk.injEq] at this
  exact ⟨this.1.symm, this.2.1.symm, this.2.2.symm⟩

/-! Code -/
abbrev Ins := Int × Int × Int
def okT (i : Ins) : Bool := okI i.1 i.2.1 i.2.2
def showT (i : Ins) : List UInt8 := showI i.1 i.2.1 i.2.2
def okC (l : List Ins) : Bool := decide (l.length ≤ 40) && l.all okT
def showC (l : List Ins) : List UInt8 := join (l.map showT) [32]
def shownC (l : List Ins) : List UInt8 := if okC l then showC l else []
def allRead (p : List (List UInt8)) : Option (List Ins) := p.mapM readI
def readC (s : List UInt8) : Option (List Ins) :=
  if s = [] then some [] else if (splitC 32 s).length > 40 then none else allRead (splitC 32 s)

theorem allRead_nil : allRead [] = some [] := rfl
theorem allRead_cons (x : List UInt8) (p : List (List UInt8)) : allRead (x :: p) = match readI x with | none => none | some i => match allRead p with | none => none | some t => some (i :: t) := by
  unfold allRead
  rw [List.mapM_cons]
  cases readI x <;> simp
  rename_i i
  cases List.mapM readI p <;> simp

theorem splitC_total (c : UInt8) (l : List UInt8) : l.length + 1 = ((splitC c l).map (fun x => x.length + 1)).sum := by
  induction l with
  | nil => simp [splitC]
  | cons x r ih =>
    simp only [splitC]
    split
    · simp [ih, Nat.add_comm]
    · split
      · rename_i h'; exact absurd h' (splitC_ne _ _)
      · rename_i h'; rw [h'] at ih; simp only [List.map_cons, List.sum_cons, List.length_cons] at ih ⊢; omega

theorem allRead_sound {p : List (List UInt8)} {l : List Ins} (h : allRead p = some l) : p = l.map showT ∧ l.all okT = true := by
  induction p generalizing l with
  | nil => rw [allRead_nil] at h; injection h with h; subst h; exact ⟨rfl, rfl⟩
  | cons x p ih =>
    rw [allRead_cons] at h
    split at h
    · simp at h
    · rename_i i hi
      split at h
      · simp at h
      · rename_i t ht
        injection h with h; subst h
        obtain ⟨op, a, b⟩ := i
        have := readI_sound hi
        have h2 := ih ht
        refine ⟨?_, ?_⟩
        · rw [h2.1]; simp [showT, this.2]
        · simp only [List.all_cons, h2.2, Bool.and_true]; exact this.1

theorem allRead_show (l : List Ins) (h : l.all okT = true) : allRead (l.map showT) = some l := by
  induction l with
  | nil => rfl
  | cons i l ih =>
    obtain ⟨op, a, b⟩ := i
    simp only [List.all_cons, Bool.and_eq_true] at h
    rw [List.map_cons, allRead_cons, ih h.2]
    have : readI (showT (op, a, b)) = some (op, a, b) := readI_show h.1
    rw [this]

theorem sum_le (l : List Ins) (h : l.all okT = true) : ((l.map showT).map (fun x => x.length + 1)).sum ≤ 13 * l.length := by
  induction l with
  | nil => simp
  | cons i l ih =>
    simp only [List.all_cons, Bool.and_eq_true] at h
    have := ih h.2
    have h1 : (showT i).length ≤ 12 := show_len h.1
    simp only [List.map_cons, List.sum_cons, List.length_cons]; omega

theorem readC_len {s : List UInt8} {l : List Ins} (h : readC s = some l) : s.length ≤ 1000 := by
  unfold readC at h
  split at h
  · rename_i h0; subst h0; simp
  · split at h
    · simp at h
    · rename_i h40
      have hs := allRead_sound h
      have ht := splitC_total 32 s
      have hlen : (splitC 32 s).length = l.length := by rw [hs.1]; simp
      rw [hs.1] at ht
      have := sum_le l hs.2
      omega

theorem splitC_join (l : List Ins) (h : l.all okT = true) (hne : l ≠ []) : splitC 32 (showC l) = l.map showT := by
  induction l with
  | nil => exact absurd rfl hne
  | cons i l ih =>
    simp only [List.all_cons, Bool.and_eq_true] at h
    have hno : (32 : UInt8) ∉ showT i := show_no h.1
    cases l with
    | nil => unfold showC; rw [List.map_cons, List.map_nil, join_one, splitC_none hno]
    | cons j l =>
      have := ih h.2 (by simp)
      have e : showC (i :: j :: l) = showT i ++ 32 :: showC (j :: l) := by
        unfold showC join
        simp [List.intercalate]
      rw [e, splitC_app hno, this]; rfl

theorem readC_show (l : List Ins) (h : okC l = true) : readC (showC l) = some l := by
  unfold okC at h
  simp only [Bool.and_eq_true, decide_eq_true_eq] at h
  cases l with
  | nil => rfl
  | cons i l =>
    have hs := splitC_join (i :: l) h.2 (by simp)
    have hne : showC (i :: l) ≠ [] := by
      intro e
      have hj : showC (i :: l) = showT i ++ joinTail [32] (l.map showT) := by unfold showC; rw [List.map_cons, join_cons]
      rw [e] at hj
      have : (showT i).length = 0 := by
        have := congrArg List.length hj; simp only [List.length_nil, List.length_append] at this; omega
      simp [showT, showI] at this
    unfold readC
    rw [if_neg hne, hs, if_neg (by rw [List.length_map]; omega)]
    exact allRead_show _ h.2

theorem showC_splitC (s : List UInt8) : join (splitC 32 s) [32] = s := by
  induction s with
  | nil => rfl
  | cons x r ih =>
    simp only [splitC]
    cases hr : splitC 32 r with
    | nil => exact absurd hr (splitC_ne _ _)
    | cons h t =>
      rw [hr] at ih
      split
      · rename_i hx; subst hx
        have : join ([] :: h :: t) [32] = 32 :: join (h :: t) [32] := by
          unfold join; simp [List.intercalate, List.intersperse]
        rw [this, ih]
      · have : join ((x :: h) :: t) [32] = x :: join (h :: t) [32] := by
          rw [join_cons, join_cons]; rfl
        rw [this, ih]

theorem readC_sound {s : List UInt8} {l : List Ins} (h : readC s = some l) : okC l = true ∧ showC l = s := by
  unfold readC at h
  split at h
  · rename_i h0; subst h0; injection h with h; subst h; exact ⟨rfl, rfl⟩
  · split at h
    · simp at h
    · rename_i h40
      have hs := allRead_sound h
      refine ⟨?_, ?_⟩
      · unfold okC
        rw [hs.1, List.length_map] at h40
        simp only [hs.2, Bool.and_true, decide_eq_true_eq]; omega
      · unfold showC; rw [← hs.1, showC_splitC]

/-- The program's own split: at most forty-one pieces. -/
def piecesI (s : List UInt8) : List (List UInt8) := splitK [32] 0 (min 41 (s.length + 1) - 1) s
theorem pieces_few {s : List UInt8} (h : (splitC 32 s).length ≤ 40) : piecesI s = splitC 32 s := by
  have := splitC_len 32 s
  have hc := List.count_le_length (a := (32 : UInt8)) (l := s)
  unfold piecesI
  exact (splitK_all 32 s _).1 (by omega)
theorem pieces_many {s : List UInt8} (h : 40 < (splitC 32 s).length) : (piecesI s).length = 41 := by
  have := splitC_len 32 s
  have hc := List.count_le_length (a := (32 : UInt8)) (l := s)
  unfold piecesI
  by_cases hk : s.count 32 ≤ min 41 (s.length + 1) - 1
  · rw [(splitK_all 32 s _).1 hk]; omega
  · rw [(splitK_all 32 s _).2 (by omega)]; omega

end Tx
end Go.Proofs.YtinanjjhkddikaaGreat

/- Contracts of the two sides' tests whether a step is right. -/
namespace Go.Proofs.YtinanjjhkddikaaGreat
namespace St
open Go.ChangeShapes Go.WideShapes Go.ChangeAt Go.RowKit

theorem tup2 {a b c d : Int} (h : a = c) (k : b = d) : (#[.int .i64 a, .int .i64 b] : Array Value) = #[.int .i64 c, .int .i64 d] := by rw [h, k]

theorem op_cases (op : Int) : op = 1 ∨ op = 2 ∨ op = 3 ∨ op = 4 ∨ op = 5 ∨ op = 6 ∨ op = 7 ∨ op = 8 ∨ op = 9 ∨ op = 10 ∨ op = 11 ∨ op = 12 ∨ op = 13 ∨ op = 14 ∨ op = 15 ∨ op = 16 ∨ op = 17 ∨ op = 18 ∨ op = 19 ∨ op = 20 ∨ (op < 1 ∨ 20 < op) := by omega

theorem isBelow (n k : Int) (w : World) :
    Calls Tryz.prog 62 #[.int .i64 n, .int .i64 k] w fun e w' => e = .returned (.bool (decide (0 ≤ n) && decide (n < k))) ∧ w = w' := by
  go_enter Tryz.func62, Tryz.ntmps62
  go_wp2
  all_goals go_ret
  all_goals (simp_all; try omega)

theorem l1In (n a b : Int) (w : World) :
    Calls Tryz.prog 66 #[.int .i64 n, .int .i64 a, .int .i64 b] w fun e w' => e = .returned (.bool (decide (a ≤ n) && decide (n ≤ b))) ∧ w = w' := by
  go_enter Tryz.func66, Tryz.ntmps66
  go_wp2
  all_goals go_ret
  all_goals (simp_all; try omega)

set_option maxHeartbeats 1000000 in
theorem limits (op : Int) (w : World) :
    Calls Tryz.prog 114 #[.int .i64 op] w fun e w' => e = .returned (.tuple #[.int .i64 (Tx.limA op), .int .i64 (Tx.limB op)]) ∧ w = w' := by
  rcases op_cases op with rfl | rfl | rfl | rfl | rfl | rfl | rfl | rfl | rfl | rfl | rfl | rfl | rfl | rfl | rfl | rfl | rfl | rfl | rfl | rfl | h
  all_goals try (go_enter Tryz.func114, Tryz.ntmps114; go_wp2; go_ret2; exact ⟨rfl, rfl⟩)
  · have e : Tx.limA op = 0 ∧ Tx.limB op = 0 := by
      have n1 : ¬ op = 1 := by omega
      have n2 : ¬ op = 2 := by omega
      have n3 : ¬ op = 3 := by omega
      have n4 : ¬ op = 4 := by omega
      have n5 : ¬ op = 5 := by omega
      have n6 : ¬ op = 6 := by omega
      have n7 : ¬ op = 7 := by omega
      have n8 : ¬ op = 8 := by omega
      have n9 : ¬ op = 9 := by omega
      have n10 : ¬ op = 10 := by omega
      have n11 : ¬ op = 11 := by omega
      have n12 : ¬ op = 12 := by omega
      have n13 : ¬ op = 13 := by omega
      have n14 : ¬ op = 14 := by omega
      have n15 : ¬ op = 15 := by omega
      have n16 : ¬ op = 16 := by omega
      have n17 : ¬ op = 17 := by omega
      have n18 : ¬ op = 18 := by omega
      have n19 : ¬ op = 19 := by omega
      have n20 : ¬ op = 20 := by omega
      unfold Tx.limA Tx.limB; constructor <;> (repeat' split) <;> omega
    rw [e.1, e.2]
    clear e
    have n1 : ¬ op = 1 := by omega
    have n2 : ¬ op = 2 := by omega
    have n3 : ¬ op = 3 := by omega
    have n4 : ¬ op = 4 := by omega
    have n5 : ¬ op = 5 := by omega
    have n6 : ¬ op = 6 := by omega
    have n7 : ¬ op = 7 := by omega
    have n8 : ¬ op = 8 := by omega
    have n9 : ¬ op = 9 := by omega
    have n10 : ¬ op = 10 := by omega
    have n11 : ¬ op = 11 := by omega
    have n12 : ¬ op = 12 := by omega
    have n13 : ¬ op = 13 := by omega
    have n14 : ¬ op = 14 := by omega
    have n15 : ¬ op = 15 := by omega
    have n16 : ¬ op = 16 := by omega
    have n17 : ¬ op = 17 := by omega
    have n18 : ¬ op = 18 := by omega
    have n19 : ¬ op = 19 := by omega
    have n20 : ¬ op = 20 := by omega
    clear h
    go_enter Tryz.func114, Tryz.ntmps114
    go_wp2
    go_ret2
    exact ⟨rfl, rfl⟩

set_option maxHeartbeats 1000000 in
theorem count (op : Int) (w : World) :
    Calls Tryz.prog 109 #[.int .i64 op] w fun e w' => e = .returned (.int .i64 (Tx.cnt op)) ∧ w = w' := by
  rcases op_cases op with rfl | rfl | rfl | rfl | rfl | rfl | rfl | rfl | rfl | rfl | rfl | rfl | rfl | rfl | rfl | rfl | rfl | rfl | rfl | rfl | h
  all_goals try (go_enter Tryz.func109, Tryz.ntmps109; go_wp2; go_ret; exact ⟨rfl, rfl⟩)
  · have e : Tx.cnt op = 0 := by
      have n1 : ¬ op = 1 := by omega
      have n2 : ¬ op = 2 := by omega
      have n3 : ¬ op = 3 := by omega
      have n4 : ¬ op = 4 := by omega
      have n5 : ¬ op = 5 := by omega
      have n6 : ¬ op = 6 := by omega
      have n7 : ¬ op = 7 := by omega
      have n8 : ¬ op = 8 := by omega
      have n9 : ¬ op = 9 := by omega
      have n10 : ¬ op = 10 := by omega
      have n11 : ¬ op = 11 := by omega
      have n12 : ¬ op = 12 := by omega
      have n13 : ¬ op = 13 := by omega
      have n14 : ¬ op = 14 := by omega
      have n15 : ¬ op = 15 := by omega
      have n16 : ¬ op = 16 := by omega
      have n17 : ¬ op = 17 := by omega
      have n18 : ¬ op = 18 := by omega
      have n19 : ¬ op = 19 := by omega
      have n20 : ¬ op = 20 := by omega
      unfold Tx.cnt; (repeat' split) <;> omega
    rw [e]
    clear e
    have n1 : ¬ op = 1 := by omega
    have n2 : ¬ op = 2 := by omega
    have n3 : ¬ op = 3 := by omega
    have n4 : ¬ op = 4 := by omega
    have n5 : ¬ op = 5 := by omega
    have n6 : ¬ op = 6 := by omega
    have n7 : ¬ op = 7 := by omega
    have n8 : ¬ op = 8 := by omega
    have n9 : ¬ op = 9 := by omega
    have n10 : ¬ op = 10 := by omega
    have n11 : ¬ op = 11 := by omega
    have n12 : ¬ op = 12 := by omega
    have n13 : ¬ op = 13 := by omega
    have n14 : ¬ op = 14 := by omega
    have n15 : ¬ op = 15 := by omega
    have n16 : ¬ op = 16 := by omega
    have n17 : ¬ op = 17 := by omega
    have n18 : ¬ op = 18 := by omega
    have n19 : ¬ op = 19 := by omega
    have n20 : ¬ op = 20 := by omega
    clear h
    go_enter Tryz.func109, Tryz.ntmps109
    go_wp2
    go_ret
    exact ⟨rfl, rfl⟩

end St
end Go.Proofs.YtinanjjhkddikaaGreat

/- Contracts of the two sides' tests whether a step is right. -/
namespace Go.Proofs.YtinanjjhkddikaaGreat
namespace St
open Go.ChangeShapes Go.WideShapes Go.ChangeAt Go.RowKit

theorem retB {p q : Bool} (h : p = q) : Ending.returned (.bool p) = .returned (.bool q) := by rw [h]

theorem implOk (op a b : Int) (w : World) :
    Calls Tryz.prog 101 #[.agg #[.int .i64 op, .int .i64 a, .int .i64 b]] w fun e w' => e = .returned (.bool (Tx.okI op a b)) ∧ Below w.heap.size w w' := by
  by_cases h1 : op = 1
  · subst h1
    by_cases hb : b = 0
    · subst hb
      have e : Tx.okI 1 a 0 = Wd.okB a := by simp [Tx.okI, Wd.okB]
      rw [e]
      clear e
      cases h : Wd.okB a
      all_goals
        go_enter Tryz.func101, Tryz.ntmps101
        go_wp2_with (first
          | (go_at_call 113; refine (Wd.implWordOk _ _).mono ?_; rintro e w' ⟨rfl, rfl⟩))
        go_ret
        exact ⟨rfl, by go_grown⟩
    · have e : Tx.okI 1 a b = false := by simp [Tx.okI, hb]
      rw [e]
      clear e
      have hb' : (b == 0) = false := by simp [hb]
      cases h : Wd.okB a
      all_goals
        go_enter Tryz.func101, Tryz.ntmps101
        go_wp2_with (first
          | (go_at_call 113; refine (Wd.implWordOk _ _).mono ?_; rintro e w' ⟨rfl, rfl⟩))
        go_ret
        exact ⟨by first | rfl | simp, by go_grown⟩
  · have hok : Tx.okI op a b = ((decide (0 ≤ a) && decide (a < Tx.limA op)) && (decide (0 ≤ b) && decide (b < Tx.limB op))) := by
      unfold Tx.okI; rw [if_neg h1]; simp only [Bool.and_assoc]
    rw [hok]
    clear hok
    cases hp : (decide (0 ≤ a) && decide (a < Tx.limA op))
    · go_enter Tryz.func101, Tryz.ntmps101
      go_wp2_with (first
        | (go_at_call 114; refine (limits _ _).mono ?_; rintro e w' ⟨rfl, rfl⟩)
        | (go_at_call 62; refine (isBelow _ _ _).mono ?_; rw [hp]; rintro e w' ⟨rfl, rfl⟩))
      all_goals go_ret
      all_goals exact ⟨rfl, by go_grown⟩
    · go_enter Tryz.func101, Tryz.ntmps101
      go_wp2_with (first
        | (go_at_call 114; refine (limits _ _).mono ?_; rintro e w' ⟨rfl, rfl⟩)
        | (go_at_call 62; refine (isBelow _ _ _).mono ?_; rw [hp]; rintro e w' ⟨rfl, rfl⟩)
        | (go_at_call 62; refine (isBelow _ _ _).mono ?_; rintro e w' ⟨rfl, rfl⟩))
      all_goals go_ret
      all_goals exact ⟨rfl, by go_grown⟩

theorem count_at (op : Int) (c : Nat) (h : Tx.cnt op = c) (w : World) :
    Calls Tryz.prog 109 #[.int .i64 op] w fun e w' => e = .returned (.int .i64 c) ∧ w = w' := by
  subst h; exact count op w

theorem spec1 (a b : Int) (w : World) :
    Calls Tryz.prog 98 #[.agg #[.int .i64 1, .int .i64 a, .int .i64 b]] w fun e w' => e = .returned (.bool (Tx.okI 1 a b)) ∧ Below w.heap.size w w' := by
  by_cases hb : b = 0
  · subst hb
    go_enter Tryz.func98, Tryz.ntmps98
    go_wp2_with (first
    | (go_at_call 110; refine (Wd.specWordOk _ _).mono ?_; rintro e w' ⟨rfl, rfl⟩)
    | (go_at_call 109; refine (count_at _ 1 rfl _).mono ?_; rintro e w' ⟨rfl, rfl⟩)
    | (go_at_call 66; refine (l1In _ _ _ _).mono ?_; rintro e w' ⟨rfl, rfl⟩))
    all_goals go_ret
    all_goals exact ⟨retB (by simp [Tx.okI, Wd.okB]), by go_grown⟩
  · have hb' : (b == 0) = false := by simp [hb]
    go_enter Tryz.func98, Tryz.ntmps98
    go_wp2_with (first
    | (go_at_call 110; refine (Wd.specWordOk _ _).mono ?_; rintro e w' ⟨rfl, rfl⟩)
    | (go_at_call 109; refine (count_at _ 1 rfl _).mono ?_; rintro e w' ⟨rfl, rfl⟩)
    | (go_at_call 66; refine (l1In _ _ _ _).mono ?_; rintro e w' ⟨rfl, rfl⟩))
    all_goals go_ret
    all_goals exact ⟨retB (by simp [Tx.okI, hb]), by go_grown⟩

theorem spec2 (a b : Int) (w : World) :
    Calls Tryz.prog 98 #[.agg #[.int .i64 2, .int .i64 a, .int .i64 b]] w fun e w' => e = .returned (.bool (Tx.okI 2 a b)) ∧ Below w.heap.size w w' := by
  by_cases hb : b = 0
  · subst hb
    go_enter Tryz.func98, Tryz.ntmps98
    go_wp2_with (first
    | (go_at_call 110; refine (Wd.specWordOk _ _).mono ?_; rintro e w' ⟨rfl, rfl⟩)
    | (go_at_call 109; refine (count_at _ 1 rfl _).mono ?_; rintro e w' ⟨rfl, rfl⟩)
    | (go_at_call 66; refine (l1In _ _ _ _).mono ?_; rintro e w' ⟨rfl, rfl⟩))
    all_goals go_ret
    all_goals exact ⟨retB (by rw [Bool.eq_iff_iff]; simp [Tx.okI, Tx.limA, Tx.limB]; omega), by go_grown⟩
  · have hb' : (b == 0) = false := by simp [hb]
    go_enter Tryz.func98, Tryz.ntmps98
    go_wp2_with (first
    | (go_at_call 110; refine (Wd.specWordOk _ _).mono ?_; rintro e w' ⟨rfl, rfl⟩)
    | (go_at_call 109; refine (count_at _ 1 rfl _).mono ?_; rintro e w' ⟨rfl, rfl⟩)
    | (go_at_call 66; refine (l1In _ _ _ _).mono ?_; rintro e w' ⟨rfl, rfl⟩))
    all_goals go_ret
    all_goals exact ⟨retB (by simp [Tx.okI, Tx.limA, Tx.limB]; omega), by go_grown⟩

theorem spec3 (a b : Int) (w : World) :
    Calls Tryz.prog 98 #[.agg #[.int .i64 3, .int .i64 a, .int .i64 b]] w fun e w' => e = .returned (.bool (Tx.okI 3 a b)) ∧ Below w.heap.size w w' := by
  by_cases hb : b = 0
  · subst hb
    go_enter Tryz.func98, Tryz.ntmps98
    go_wp2_with (first
    | (go_at_call 110; refine (Wd.specWordOk _ _).mono ?_; rintro e w' ⟨rfl, rfl⟩)
    | (go_at_call 109; refine (count_at _ 1 rfl _).mono ?_; rintro e w' ⟨rfl, rfl⟩)
    | (go_at_call 66; refine (l1In _ _ _ _).mono ?_; rintro e w' ⟨rfl, rfl⟩))
    all_goals go_ret
    all_goals exact ⟨retB (by rw [Bool.eq_iff_iff]; simp [Tx.okI, Tx.limA, Tx.limB]; omega), by go_grown⟩
  · have hb' : (b == 0) = false := by simp [hb]
    go_enter Tryz.func98, Tryz.ntmps98
    go_wp2_with (first
    | (go_at_call 110; refine (Wd.specWordOk _ _).mono ?_; rintro e w' ⟨rfl, rfl⟩)
    | (go_at_call 109; refine (count_at _ 1 rfl _).mono ?_; rintro e w' ⟨rfl, rfl⟩)
    | (go_at_call 66; refine (l1In _ _ _ _).mono ?_; rintro e w' ⟨rfl, rfl⟩))
    all_goals go_ret
    all_goals exact ⟨retB (by simp [Tx.okI, Tx.limA, Tx.limB]; omega), by go_grown⟩

theorem spec4 (a b : Int) (w : World) :
    Calls Tryz.prog 98 #[.agg #[.int .i64 4, .int .i64 a, .int .i64 b]] w fun e w' => e = .returned (.bool (Tx.okI 4 a b)) ∧ Below w.heap.size w w' := by
  by_cases hb : b = 0
  · subst hb
    by_cases ha : a = 0
    · subst ha
      go_enter Tryz.func98, Tryz.ntmps98
      go_wp2_with (first
    | (go_at_call 110; refine (Wd.specWordOk _ _).mono ?_; rintro e w' ⟨rfl, rfl⟩)
    | (go_at_call 109; refine (count_at _ 0 rfl _).mono ?_; rintro e w' ⟨rfl, rfl⟩)
    | (go_at_call 66; refine (l1In _ _ _ _).mono ?_; rintro e w' ⟨rfl, rfl⟩))
      all_goals go_ret
      all_goals exact ⟨retB (by decide), by go_grown⟩
    · have ha' : (a == 0) = false := by simp [ha]
      go_enter Tryz.func98, Tryz.ntmps98
      go_wp2_with (first
    | (go_at_call 110; refine (Wd.specWordOk _ _).mono ?_; rintro e w' ⟨rfl, rfl⟩)
    | (go_at_call 109; refine (count_at _ 0 rfl _).mono ?_; rintro e w' ⟨rfl, rfl⟩)
    | (go_at_call 66; refine (l1In _ _ _ _).mono ?_; rintro e w' ⟨rfl, rfl⟩))
      all_goals go_ret
      all_goals exact ⟨retB (by simp [Tx.okI, Tx.limA, Tx.limB]; omega), by go_grown⟩
  · have hb' : (b == 0) = false := by simp [hb]
    go_enter Tryz.func98, Tryz.ntmps98
    go_wp2_with (first
    | (go_at_call 110; refine (Wd.specWordOk _ _).mono ?_; rintro e w' ⟨rfl, rfl⟩)
    | (go_at_call 109; refine (count_at _ 0 rfl _).mono ?_; rintro e w' ⟨rfl, rfl⟩)
    | (go_at_call 66; refine (l1In _ _ _ _).mono ?_; rintro e w' ⟨rfl, rfl⟩))
    all_goals go_ret
    all_goals exact ⟨retB (by simp [Tx.okI, Tx.limA, Tx.limB]; omega), by go_grown⟩

theorem spec5 (a b : Int) (w : World) :
    Calls Tryz.prog 98 #[.agg #[.int .i64 5, .int .i64 a, .int .i64 b]] w fun e w' => e = .returned (.bool (Tx.okI 5 a b)) ∧ Below w.heap.size w w' := by
  by_cases hb : b = 0
  · subst hb
    by_cases ha : a = 0
    · subst ha
      go_enter Tryz.func98, Tryz.ntmps98
      go_wp2_with (first
    | (go_at_call 110; refine (Wd.specWordOk _ _).mono ?_; rintro e w' ⟨rfl, rfl⟩)
    | (go_at_call 109; refine (count_at _ 0 rfl _).mono ?_; rintro e w' ⟨rfl, rfl⟩)
    | (go_at_call 66; refine (l1In _ _ _ _).mono ?_; rintro e w' ⟨rfl, rfl⟩))
      all_goals go_ret
      all_goals exact ⟨retB (by decide), by go_grown⟩
    · have ha' : (a == 0) = false := by simp [ha]
      go_enter Tryz.func98, Tryz.ntmps98
      go_wp2_with (first
    | (go_at_call 110; refine (Wd.specWordOk _ _).mono ?_; rintro e w' ⟨rfl, rfl⟩)
    | (go_at_call 109; refine (count_at _ 0 rfl _).mono ?_; rintro e w' ⟨rfl, rfl⟩)
    | (go_at_call 66; refine (l1In _ _ _ _).mono ?_; rintro e w' ⟨rfl, rfl⟩))
      all_goals go_ret
      all_goals exact ⟨retB (by simp [Tx.okI, Tx.limA, Tx.limB]; omega), by go_grown⟩
  · have hb' : (b == 0) = false := by simp [hb]
    go_enter Tryz.func98, Tryz.ntmps98
    go_wp2_with (first
    | (go_at_call 110; refine (Wd.specWordOk _ _).mono ?_; rintro e w' ⟨rfl, rfl⟩)
    | (go_at_call 109; refine (count_at _ 0 rfl _).mono ?_; rintro e w' ⟨rfl, rfl⟩)
    | (go_at_call 66; refine (l1In _ _ _ _).mono ?_; rintro e w' ⟨rfl, rfl⟩))
    all_goals go_ret
    all_goals exact ⟨retB (by simp [Tx.okI, Tx.limA, Tx.limB]; omega), by go_grown⟩

theorem spec6 (a b : Int) (w : World) :
    Calls Tryz.prog 98 #[.agg #[.int .i64 6, .int .i64 a, .int .i64 b]] w fun e w' => e = .returned (.bool (Tx.okI 6 a b)) ∧ Below w.heap.size w w' := by
  by_cases hb : b = 0
  · subst hb
    by_cases ha : a = 0
    · subst ha
      go_enter Tryz.func98, Tryz.ntmps98
      go_wp2_with (first
    | (go_at_call 110; refine (Wd.specWordOk _ _).mono ?_; rintro e w' ⟨rfl, rfl⟩)
    | (go_at_call 109; refine (count_at _ 0 rfl _).mono ?_; rintro e w' ⟨rfl, rfl⟩)
    | (go_at_call 66; refine (l1In _ _ _ _).mono ?_; rintro e w' ⟨rfl, rfl⟩))
      all_goals go_ret
      all_goals exact ⟨retB (by decide), by go_grown⟩
    · have ha' : (a == 0) = false := by simp [ha]
      go_enter Tryz.func98, Tryz.ntmps98
      go_wp2_with (first
    | (go_at_call 110; refine (Wd.specWordOk _ _).mono ?_; rintro e w' ⟨rfl, rfl⟩)
    | (go_at_call 109; refine (count_at _ 0 rfl _).mono ?_; rintro e w' ⟨rfl, rfl⟩)
    | (go_at_call 66; refine (l1In _ _ _ _).mono ?_; rintro e w' ⟨rfl, rfl⟩))
      all_goals go_ret
      all_goals exact ⟨retB (by simp [Tx.okI, Tx.limA, Tx.limB]; omega), by go_grown⟩
  · have hb' : (b == 0) = false := by simp [hb]
    go_enter Tryz.func98, Tryz.ntmps98
    go_wp2_with (first
    | (go_at_call 110; refine (Wd.specWordOk _ _).mono ?_; rintro e w' ⟨rfl, rfl⟩)
    | (go_at_call 109; refine (count_at _ 0 rfl _).mono ?_; rintro e w' ⟨rfl, rfl⟩)
    | (go_at_call 66; refine (l1In _ _ _ _).mono ?_; rintro e w' ⟨rfl, rfl⟩))
    all_goals go_ret
    all_goals exact ⟨retB (by simp [Tx.okI, Tx.limA, Tx.limB]; omega), by go_grown⟩

theorem spec7 (a b : Int) (w : World) :
    Calls Tryz.prog 98 #[.agg #[.int .i64 7, .int .i64 a, .int .i64 b]] w fun e w' => e = .returned (.bool (Tx.okI 7 a b)) ∧ Below w.heap.size w w' := by
  by_cases hb : b = 0
  · subst hb
    by_cases ha : a = 0
    · subst ha
      go_enter Tryz.func98, Tryz.ntmps98
      go_wp2_with (first
    | (go_at_call 110; refine (Wd.specWordOk _ _).mono ?_; rintro e w' ⟨rfl, rfl⟩)
    | (go_at_call 109; refine (count_at _ 0 rfl _).mono ?_; rintro e w' ⟨rfl, rfl⟩)
    | (go_at_call 66; refine (l1In _ _ _ _).mono ?_; rintro e w' ⟨rfl, rfl⟩))
      all_goals go_ret
      all_goals exact ⟨retB (by decide), by go_grown⟩
    · have ha' : (a == 0) = false := by simp [ha]
      go_enter Tryz.func98, Tryz.ntmps98
      go_wp2_with (first
    | (go_at_call 110; refine (Wd.specWordOk _ _).mono ?_; rintro e w' ⟨rfl, rfl⟩)
    | (go_at_call 109; refine (count_at _ 0 rfl _).mono ?_; rintro e w' ⟨rfl, rfl⟩)
    | (go_at_call 66; refine (l1In _ _ _ _).mono ?_; rintro e w' ⟨rfl, rfl⟩))
      all_goals go_ret
      all_goals exact ⟨retB (by simp [Tx.okI, Tx.limA, Tx.limB]; omega), by go_grown⟩
  · have hb' : (b == 0) = false := by simp [hb]
    go_enter Tryz.func98, Tryz.ntmps98
    go_wp2_with (first
    | (go_at_call 110; refine (Wd.specWordOk _ _).mono ?_; rintro e w' ⟨rfl, rfl⟩)
    | (go_at_call 109; refine (count_at _ 0 rfl _).mono ?_; rintro e w' ⟨rfl, rfl⟩)
    | (go_at_call 66; refine (l1In _ _ _ _).mono ?_; rintro e w' ⟨rfl, rfl⟩))
    all_goals go_ret
    all_goals exact ⟨retB (by simp [Tx.okI, Tx.limA, Tx.limB]; omega), by go_grown⟩

theorem spec8 (a b : Int) (w : World) :
    Calls Tryz.prog 98 #[.agg #[.int .i64 8, .int .i64 a, .int .i64 b]] w fun e w' => e = .returned (.bool (Tx.okI 8 a b)) ∧ Below w.heap.size w w' := by
  by_cases hb : b = 0
  · subst hb
    by_cases ha : a = 0
    · subst ha
      go_enter Tryz.func98, Tryz.ntmps98
      go_wp2_with (first
    | (go_at_call 110; refine (Wd.specWordOk _ _).mono ?_; rintro e w' ⟨rfl, rfl⟩)
    | (go_at_call 109; refine (count_at _ 0 rfl _).mono ?_; rintro e w' ⟨rfl, rfl⟩)
    | (go_at_call 66; refine (l1In _ _ _ _).mono ?_; rintro e w' ⟨rfl, rfl⟩))
      all_goals go_ret
      all_goals exact ⟨retB (by decide), by go_grown⟩
    · have ha' : (a == 0) = false := by simp [ha]
      go_enter Tryz.func98, Tryz.ntmps98
      go_wp2_with (first
    | (go_at_call 110; refine (Wd.specWordOk _ _).mono ?_; rintro e w' ⟨rfl, rfl⟩)
    | (go_at_call 109; refine (count_at _ 0 rfl _).mono ?_; rintro e w' ⟨rfl, rfl⟩)
    | (go_at_call 66; refine (l1In _ _ _ _).mono ?_; rintro e w' ⟨rfl, rfl⟩))
      all_goals go_ret
      all_goals exact ⟨retB (by simp [Tx.okI, Tx.limA, Tx.limB]; omega), by go_grown⟩
  · have hb' : (b == 0) = false := by simp [hb]
    go_enter Tryz.func98, Tryz.ntmps98
    go_wp2_with (first
    | (go_at_call 110; refine (Wd.specWordOk _ _).mono ?_; rintro e w' ⟨rfl, rfl⟩)
    | (go_at_call 109; refine (count_at _ 0 rfl _).mono ?_; rintro e w' ⟨rfl, rfl⟩)
    | (go_at_call 66; refine (l1In _ _ _ _).mono ?_; rintro e w' ⟨rfl, rfl⟩))
    all_goals go_ret
    all_goals exact ⟨retB (by simp [Tx.okI, Tx.limA, Tx.limB]; omega), by go_grown⟩

theorem spec9 (a b : Int) (w : World) :
    Calls Tryz.prog 98 #[.agg #[.int .i64 9, .int .i64 a, .int .i64 b]] w fun e w' => e = .returned (.bool (Tx.okI 9 a b)) ∧ Below w.heap.size w w' := by
  by_cases hb : b = 0
  · subst hb
    by_cases ha : a = 0
    · subst ha
      go_enter Tryz.func98, Tryz.ntmps98
      go_wp2_with (first
    | (go_at_call 110; refine (Wd.specWordOk _ _).mono ?_; rintro e w' ⟨rfl, rfl⟩)
    | (go_at_call 109; refine (count_at _ 0 rfl _).mono ?_; rintro e w' ⟨rfl, rfl⟩)
    | (go_at_call 66; refine (l1In _ _ _ _).mono ?_; rintro e w' ⟨rfl, rfl⟩))
      all_goals go_ret
      all_goals exact ⟨retB (by decide), by go_grown⟩
    · have ha' : (a == 0) = false := by simp [ha]
      go_enter Tryz.func98, Tryz.ntmps98
      go_wp2_with (first
    | (go_at_call 110; refine (Wd.specWordOk _ _).mono ?_; rintro e w' ⟨rfl, rfl⟩)
    | (go_at_call 109; refine (count_at _ 0 rfl _).mono ?_; rintro e w' ⟨rfl, rfl⟩)
    | (go_at_call 66; refine (l1In _ _ _ _).mono ?_; rintro e w' ⟨rfl, rfl⟩))
      all_goals go_ret
      all_goals exact ⟨retB (by simp [Tx.okI, Tx.limA, Tx.limB]; omega), by go_grown⟩
  · have hb' : (b == 0) = false := by simp [hb]
    go_enter Tryz.func98, Tryz.ntmps98
    go_wp2_with (first
    | (go_at_call 110; refine (Wd.specWordOk _ _).mono ?_; rintro e w' ⟨rfl, rfl⟩)
    | (go_at_call 109; refine (count_at _ 0 rfl _).mono ?_; rintro e w' ⟨rfl, rfl⟩)
    | (go_at_call 66; refine (l1In _ _ _ _).mono ?_; rintro e w' ⟨rfl, rfl⟩))
    all_goals go_ret
    all_goals exact ⟨retB (by simp [Tx.okI, Tx.limA, Tx.limB]; omega), by go_grown⟩

theorem spec10 (a b : Int) (w : World) :
    Calls Tryz.prog 98 #[.agg #[.int .i64 10, .int .i64 a, .int .i64 b]] w fun e w' => e = .returned (.bool (Tx.okI 10 a b)) ∧ Below w.heap.size w w' := by
  by_cases hb : b = 0
  · subst hb
    by_cases ha : a = 0
    · subst ha
      go_enter Tryz.func98, Tryz.ntmps98
      go_wp2_with (first
    | (go_at_call 110; refine (Wd.specWordOk _ _).mono ?_; rintro e w' ⟨rfl, rfl⟩)
    | (go_at_call 109; refine (count_at _ 0 rfl _).mono ?_; rintro e w' ⟨rfl, rfl⟩)
    | (go_at_call 66; refine (l1In _ _ _ _).mono ?_; rintro e w' ⟨rfl, rfl⟩))
      all_goals go_ret
      all_goals exact ⟨retB (by decide), by go_grown⟩
    · have ha' : (a == 0) = false := by simp [ha]
      go_enter Tryz.func98, Tryz.ntmps98
      go_wp2_with (first
    | (go_at_call 110; refine (Wd.specWordOk _ _).mono ?_; rintro e w' ⟨rfl, rfl⟩)
    | (go_at_call 109; refine (count_at _ 0 rfl _).mono ?_; rintro e w' ⟨rfl, rfl⟩)
    | (go_at_call 66; refine (l1In _ _ _ _).mono ?_; rintro e w' ⟨rfl, rfl⟩))
      all_goals go_ret
      all_goals exact ⟨retB (by simp [Tx.okI, Tx.limA, Tx.limB]; omega), by go_grown⟩
  · have hb' : (b == 0) = false := by simp [hb]
    go_enter Tryz.func98, Tryz.ntmps98
    go_wp2_with (first
    | (go_at_call 110; refine (Wd.specWordOk _ _).mono ?_; rintro e w' ⟨rfl, rfl⟩)
    | (go_at_call 109; refine (count_at _ 0 rfl _).mono ?_; rintro e w' ⟨rfl, rfl⟩)
    | (go_at_call 66; refine (l1In _ _ _ _).mono ?_; rintro e w' ⟨rfl, rfl⟩))
    all_goals go_ret
    all_goals exact ⟨retB (by simp [Tx.okI, Tx.limA, Tx.limB]; omega), by go_grown⟩

theorem spec11 (a b : Int) (w : World) :
    Calls Tryz.prog 98 #[.agg #[.int .i64 11, .int .i64 a, .int .i64 b]] w fun e w' => e = .returned (.bool (Tx.okI 11 a b)) ∧ Below w.heap.size w w' := by
  by_cases hb : b = 0
  · subst hb
    go_enter Tryz.func98, Tryz.ntmps98
    go_wp2_with (first
    | (go_at_call 110; refine (Wd.specWordOk _ _).mono ?_; rintro e w' ⟨rfl, rfl⟩)
    | (go_at_call 109; refine (count_at _ 1 rfl _).mono ?_; rintro e w' ⟨rfl, rfl⟩)
    | (go_at_call 66; refine (l1In _ _ _ _).mono ?_; rintro e w' ⟨rfl, rfl⟩))
    all_goals go_ret
    all_goals exact ⟨retB (by rw [Bool.eq_iff_iff]; simp [Tx.okI, Tx.limA, Tx.limB]; omega), by go_grown⟩
  · have hb' : (b == 0) = false := by simp [hb]
    go_enter Tryz.func98, Tryz.ntmps98
    go_wp2_with (first
    | (go_at_call 110; refine (Wd.specWordOk _ _).mono ?_; rintro e w' ⟨rfl, rfl⟩)
    | (go_at_call 109; refine (count_at _ 1 rfl _).mono ?_; rintro e w' ⟨rfl, rfl⟩)
    | (go_at_call 66; refine (l1In _ _ _ _).mono ?_; rintro e w' ⟨rfl, rfl⟩))
    all_goals go_ret
    all_goals exact ⟨retB (by simp [Tx.okI, Tx.limA, Tx.limB]; omega), by go_grown⟩

theorem spec12 (a b : Int) (w : World) :
    Calls Tryz.prog 98 #[.agg #[.int .i64 12, .int .i64 a, .int .i64 b]] w fun e w' => e = .returned (.bool (Tx.okI 12 a b)) ∧ Below w.heap.size w w' := by
  by_cases hb : b = 0
  · subst hb
    go_enter Tryz.func98, Tryz.ntmps98
    go_wp2_with (first
    | (go_at_call 110; refine (Wd.specWordOk _ _).mono ?_; rintro e w' ⟨rfl, rfl⟩)
    | (go_at_call 109; refine (count_at _ 1 rfl _).mono ?_; rintro e w' ⟨rfl, rfl⟩)
    | (go_at_call 66; refine (l1In _ _ _ _).mono ?_; rintro e w' ⟨rfl, rfl⟩))
    all_goals go_ret
    all_goals exact ⟨retB (by rw [Bool.eq_iff_iff]; simp [Tx.okI, Tx.limA, Tx.limB]; omega), by go_grown⟩
  · have hb' : (b == 0) = false := by simp [hb]
    go_enter Tryz.func98, Tryz.ntmps98
    go_wp2_with (first
    | (go_at_call 110; refine (Wd.specWordOk _ _).mono ?_; rintro e w' ⟨rfl, rfl⟩)
    | (go_at_call 109; refine (count_at _ 1 rfl _).mono ?_; rintro e w' ⟨rfl, rfl⟩)
    | (go_at_call 66; refine (l1In _ _ _ _).mono ?_; rintro e w' ⟨rfl, rfl⟩))
    all_goals go_ret
    all_goals exact ⟨retB (by simp [Tx.okI, Tx.limA, Tx.limB]; omega), by go_grown⟩

theorem spec13 (a b : Int) (w : World) :
    Calls Tryz.prog 98 #[.agg #[.int .i64 13, .int .i64 a, .int .i64 b]] w fun e w' => e = .returned (.bool (Tx.okI 13 a b)) ∧ Below w.heap.size w w' := by
  by_cases hb : b = 0
  · subst hb
    by_cases ha : a = 0
    · subst ha
      go_enter Tryz.func98, Tryz.ntmps98
      go_wp2_with (first
    | (go_at_call 110; refine (Wd.specWordOk _ _).mono ?_; rintro e w' ⟨rfl, rfl⟩)
    | (go_at_call 109; refine (count_at _ 0 rfl _).mono ?_; rintro e w' ⟨rfl, rfl⟩)
    | (go_at_call 66; refine (l1In _ _ _ _).mono ?_; rintro e w' ⟨rfl, rfl⟩))
      all_goals go_ret
      all_goals exact ⟨retB (by decide), by go_grown⟩
    · have ha' : (a == 0) = false := by simp [ha]
      go_enter Tryz.func98, Tryz.ntmps98
      go_wp2_with (first
    | (go_at_call 110; refine (Wd.specWordOk _ _).mono ?_; rintro e w' ⟨rfl, rfl⟩)
    | (go_at_call 109; refine (count_at _ 0 rfl _).mono ?_; rintro e w' ⟨rfl, rfl⟩)
    | (go_at_call 66; refine (l1In _ _ _ _).mono ?_; rintro e w' ⟨rfl, rfl⟩))
      all_goals go_ret
      all_goals exact ⟨retB (by simp [Tx.okI, Tx.limA, Tx.limB]; omega), by go_grown⟩
  · have hb' : (b == 0) = false := by simp [hb]
    go_enter Tryz.func98, Tryz.ntmps98
    go_wp2_with (first
    | (go_at_call 110; refine (Wd.specWordOk _ _).mono ?_; rintro e w' ⟨rfl, rfl⟩)
    | (go_at_call 109; refine (count_at _ 0 rfl _).mono ?_; rintro e w' ⟨rfl, rfl⟩)
    | (go_at_call 66; refine (l1In _ _ _ _).mono ?_; rintro e w' ⟨rfl, rfl⟩))
    all_goals go_ret
    all_goals exact ⟨retB (by simp [Tx.okI, Tx.limA, Tx.limB]; omega), by go_grown⟩

theorem spec14 (a b : Int) (w : World) :
    Calls Tryz.prog 98 #[.agg #[.int .i64 14, .int .i64 a, .int .i64 b]] w fun e w' => e = .returned (.bool (Tx.okI 14 a b)) ∧ Below w.heap.size w w' := by
  by_cases hb : b = 0
  · subst hb
    go_enter Tryz.func98, Tryz.ntmps98
    go_wp2_with (first
    | (go_at_call 110; refine (Wd.specWordOk _ _).mono ?_; rintro e w' ⟨rfl, rfl⟩)
    | (go_at_call 109; refine (count_at _ 1 rfl _).mono ?_; rintro e w' ⟨rfl, rfl⟩)
    | (go_at_call 66; refine (l1In _ _ _ _).mono ?_; rintro e w' ⟨rfl, rfl⟩))
    all_goals go_ret
    all_goals exact ⟨retB (by rw [Bool.eq_iff_iff]; simp [Tx.okI, Tx.limA, Tx.limB]; omega), by go_grown⟩
  · have hb' : (b == 0) = false := by simp [hb]
    go_enter Tryz.func98, Tryz.ntmps98
    go_wp2_with (first
    | (go_at_call 110; refine (Wd.specWordOk _ _).mono ?_; rintro e w' ⟨rfl, rfl⟩)
    | (go_at_call 109; refine (count_at _ 1 rfl _).mono ?_; rintro e w' ⟨rfl, rfl⟩)
    | (go_at_call 66; refine (l1In _ _ _ _).mono ?_; rintro e w' ⟨rfl, rfl⟩))
    all_goals go_ret
    all_goals exact ⟨retB (by simp [Tx.okI, Tx.limA, Tx.limB]; omega), by go_grown⟩

theorem spec15 (a b : Int) (w : World) :
    Calls Tryz.prog 98 #[.agg #[.int .i64 15, .int .i64 a, .int .i64 b]] w fun e w' => e = .returned (.bool (Tx.okI 15 a b)) ∧ Below w.heap.size w w' := by
  go_enter Tryz.func98, Tryz.ntmps98
  go_wp2_with (first
    | (go_at_call 110; refine (Wd.specWordOk _ _).mono ?_; rintro e w' ⟨rfl, rfl⟩)
    | (go_at_call 109; refine (count_at _ 2 rfl _).mono ?_; rintro e w' ⟨rfl, rfl⟩)
    | (go_at_call 66; refine (l1In _ _ _ _).mono ?_; rintro e w' ⟨rfl, rfl⟩))
  all_goals go_ret
  all_goals exact ⟨retB (by rw [Bool.eq_iff_iff]; simp [Tx.okI, Tx.limA, Tx.limB]; omega), by go_grown⟩

theorem spec16 (a b : Int) (w : World) :
    Calls Tryz.prog 98 #[.agg #[.int .i64 16, .int .i64 a, .int .i64 b]] w fun e w' => e = .returned (.bool (Tx.okI 16 a b)) ∧ Below w.heap.size w w' := by
  go_enter Tryz.func98, Tryz.ntmps98
  go_wp2_with (first
    | (go_at_call 110; refine (Wd.specWordOk _ _).mono ?_; rintro e w' ⟨rfl, rfl⟩)
    | (go_at_call 109; refine (count_at _ 2 rfl _).mono ?_; rintro e w' ⟨rfl, rfl⟩)
    | (go_at_call 66; refine (l1In _ _ _ _).mono ?_; rintro e w' ⟨rfl, rfl⟩))
  all_goals go_ret
  all_goals exact ⟨retB (by rw [Bool.eq_iff_iff]; simp [Tx.okI, Tx.limA, Tx.limB]; omega), by go_grown⟩

theorem spec17 (a b : Int) (w : World) :
    Calls Tryz.prog 98 #[.agg #[.int .i64 17, .int .i64 a, .int .i64 b]] w fun e w' => e = .returned (.bool (Tx.okI 17 a b)) ∧ Below w.heap.size w w' := by
  go_enter Tryz.func98, Tryz.ntmps98
  go_wp2_with (first
    | (go_at_call 110; refine (Wd.specWordOk _ _).mono ?_; rintro e w' ⟨rfl, rfl⟩)
    | (go_at_call 109; refine (count_at _ 2 rfl _).mono ?_; rintro e w' ⟨rfl, rfl⟩)
    | (go_at_call 66; refine (l1In _ _ _ _).mono ?_; rintro e w' ⟨rfl, rfl⟩))
  all_goals go_ret
  all_goals exact ⟨retB (by rw [Bool.eq_iff_iff]; simp [Tx.okI, Tx.limA, Tx.limB]; omega), by go_grown⟩

theorem spec18 (a b : Int) (w : World) :
    Calls Tryz.prog 98 #[.agg #[.int .i64 18, .int .i64 a, .int .i64 b]] w fun e w' => e = .returned (.bool (Tx.okI 18 a b)) ∧ Below w.heap.size w w' := by
  by_cases hb : b = 0
  · subst hb
    by_cases ha : a = 0
    · subst ha
      go_enter Tryz.func98, Tryz.ntmps98
      go_wp2_with (first
    | (go_at_call 110; refine (Wd.specWordOk _ _).mono ?_; rintro e w' ⟨rfl, rfl⟩)
    | (go_at_call 109; refine (count_at _ 0 rfl _).mono ?_; rintro e w' ⟨rfl, rfl⟩)
    | (go_at_call 66; refine (l1In _ _ _ _).mono ?_; rintro e w' ⟨rfl, rfl⟩))
      all_goals go_ret
      all_goals exact ⟨retB (by decide), by go_grown⟩
    · have ha' : (a == 0) = false := by simp [ha]
      go_enter Tryz.func98, Tryz.ntmps98
      go_wp2_with (first
    | (go_at_call 110; refine (Wd.specWordOk _ _).mono ?_; rintro e w' ⟨rfl, rfl⟩)
    | (go_at_call 109; refine (count_at _ 0 rfl _).mono ?_; rintro e w' ⟨rfl, rfl⟩)
    | (go_at_call 66; refine (l1In _ _ _ _).mono ?_; rintro e w' ⟨rfl, rfl⟩))
      all_goals go_ret
      all_goals exact ⟨retB (by simp [Tx.okI, Tx.limA, Tx.limB]; omega), by go_grown⟩
  · have hb' : (b == 0) = false := by simp [hb]
    go_enter Tryz.func98, Tryz.ntmps98
    go_wp2_with (first
    | (go_at_call 110; refine (Wd.specWordOk _ _).mono ?_; rintro e w' ⟨rfl, rfl⟩)
    | (go_at_call 109; refine (count_at _ 0 rfl _).mono ?_; rintro e w' ⟨rfl, rfl⟩)
    | (go_at_call 66; refine (l1In _ _ _ _).mono ?_; rintro e w' ⟨rfl, rfl⟩))
    all_goals go_ret
    all_goals exact ⟨retB (by simp [Tx.okI, Tx.limA, Tx.limB]; omega), by go_grown⟩

theorem spec19 (a b : Int) (w : World) :
    Calls Tryz.prog 98 #[.agg #[.int .i64 19, .int .i64 a, .int .i64 b]] w fun e w' => e = .returned (.bool (Tx.okI 19 a b)) ∧ Below w.heap.size w w' := by
  by_cases hb : b = 0
  · subst hb
    by_cases ha : a = 0
    · subst ha
      go_enter Tryz.func98, Tryz.ntmps98
      go_wp2_with (first
    | (go_at_call 110; refine (Wd.specWordOk _ _).mono ?_; rintro e w' ⟨rfl, rfl⟩)
    | (go_at_call 109; refine (count_at _ 0 rfl _).mono ?_; rintro e w' ⟨rfl, rfl⟩)
    | (go_at_call 66; refine (l1In _ _ _ _).mono ?_; rintro e w' ⟨rfl, rfl⟩))
      all_goals go_ret
      all_goals exact ⟨retB (by decide), by go_grown⟩
    · have ha' : (a == 0) = false := by simp [ha]
      go_enter Tryz.func98, Tryz.ntmps98
      go_wp2_with (first
    | (go_at_call 110; refine (Wd.specWordOk _ _).mono ?_; rintro e w' ⟨rfl, rfl⟩)
    | (go_at_call 109; refine (count_at _ 0 rfl _).mono ?_; rintro e w' ⟨rfl, rfl⟩)
    | (go_at_call 66; refine (l1In _ _ _ _).mono ?_; rintro e w' ⟨rfl, rfl⟩))
      all_goals go_ret
      all_goals exact ⟨retB (by simp [Tx.okI, Tx.limA, Tx.limB]; omega), by go_grown⟩
  · have hb' : (b == 0) = false := by simp [hb]
    go_enter Tryz.func98, Tryz.ntmps98
    go_wp2_with (first
    | (go_at_call 110; refine (Wd.specWordOk _ _).mono ?_; rintro e w' ⟨rfl, rfl⟩)
    | (go_at_call 109; refine (count_at _ 0 rfl _).mono ?_; rintro e w' ⟨rfl, rfl⟩)
    | (go_at_call 66; refine (l1In _ _ _ _).mono ?_; rintro e w' ⟨rfl, rfl⟩))
    all_goals go_ret
    all_goals exact ⟨retB (by simp [Tx.okI, Tx.limA, Tx.limB]; omega), by go_grown⟩

theorem spec20 (a b : Int) (w : World) :
    Calls Tryz.prog 98 #[.agg #[.int .i64 20, .int .i64 a, .int .i64 b]] w fun e w' => e = .returned (.bool (Tx.okI 20 a b)) ∧ Below w.heap.size w w' := by
  by_cases hb : b = 0
  · subst hb
    by_cases ha : a = 0
    · subst ha
      go_enter Tryz.func98, Tryz.ntmps98
      go_wp2_with (first
    | (go_at_call 110; refine (Wd.specWordOk _ _).mono ?_; rintro e w' ⟨rfl, rfl⟩)
    | (go_at_call 109; refine (count_at _ 0 rfl _).mono ?_; rintro e w' ⟨rfl, rfl⟩)
    | (go_at_call 66; refine (l1In _ _ _ _).mono ?_; rintro e w' ⟨rfl, rfl⟩))
      all_goals go_ret
      all_goals exact ⟨retB (by decide), by go_grown⟩
    · have ha' : (a == 0) = false := by simp [ha]
      go_enter Tryz.func98, Tryz.ntmps98
      go_wp2_with (first
    | (go_at_call 110; refine (Wd.specWordOk _ _).mono ?_; rintro e w' ⟨rfl, rfl⟩)
    | (go_at_call 109; refine (count_at _ 0 rfl _).mono ?_; rintro e w' ⟨rfl, rfl⟩)
    | (go_at_call 66; refine (l1In _ _ _ _).mono ?_; rintro e w' ⟨rfl, rfl⟩))
      all_goals go_ret
      all_goals exact ⟨retB (by simp [Tx.okI, Tx.limA, Tx.limB]; omega), by go_grown⟩
  · have hb' : (b == 0) = false := by simp [hb]
    go_enter Tryz.func98, Tryz.ntmps98
    go_wp2_with (first
    | (go_at_call 110; refine (Wd.specWordOk _ _).mono ?_; rintro e w' ⟨rfl, rfl⟩)
    | (go_at_call 109; refine (count_at _ 0 rfl _).mono ?_; rintro e w' ⟨rfl, rfl⟩)
    | (go_at_call 66; refine (l1In _ _ _ _).mono ?_; rintro e w' ⟨rfl, rfl⟩))
    all_goals go_ret
    all_goals exact ⟨retB (by simp [Tx.okI, Tx.limA, Tx.limB]; omega), by go_grown⟩

theorem specOk (op a b : Int) (w : World) :
    Calls Tryz.prog 98 #[.agg #[.int .i64 op, .int .i64 a, .int .i64 b]] w fun e w' => e = .returned (.bool (Tx.okI op a b)) ∧ Below w.heap.size w w' := by
  rcases op_cases op with rfl | rfl | rfl | rfl | rfl | rfl | rfl | rfl | rfl | rfl | rfl | rfl | rfl | rfl | rfl | rfl | rfl | rfl | rfl | rfl | h
  · exact spec1 a b w
  · exact spec2 a b w
  · exact spec3 a b w
  · exact spec4 a b w
  · exact spec5 a b w
  · exact spec6 a b w
  · exact spec7 a b w
  · exact spec8 a b w
  · exact spec9 a b w
  · exact spec10 a b w
  · exact spec11 a b w
  · exact spec12 a b w
  · exact spec13 a b w
  · exact spec14 a b w
  · exact spec15 a b w
  · exact spec16 a b w
  · exact spec17 a b w
  · exact spec18 a b w
  · exact spec19 a b w
  · exact spec20 a b w
  have e : Tx.okI op a b = false := by
    cases hh : Tx.okI op a b
    · rfl
    · have := Tx.ok_op hh; omega
  rw [e]
  clear e
  rcases h with h | h
  all_goals
    go_enter Tryz.func98, Tryz.ntmps98
    go_wp2
    go_ret
    exact ⟨rfl, by go_grown⟩
end St
end Go.Proofs.YtinanjjhkddikaaGreat

/- Contracts of the laws' own small functions on steps. -/
namespace Go.Proofs.YtinanjjhkddikaaGreat
namespace St
open Go.ChangeShapes Go.WideShapes Go.ChangeAt Go.RowKit

set_option maxHeartbeats 800000 in
theorem toInsn (op a b : Int) (w : World) :
    Calls Tryz.prog 111 #[.agg #[.int .i64 op, .int .i64 a, .int .i64 b]] w fun e w' => e = .returned (.agg #[.int .i64 op, .int .i64 a, .int .i64 b]) ∧ Below w.heap.size w w' := by
  go_enter Tryz.func111, Tryz.ntmps111
  go_wp2
  go_returns
  exact ⟨rfl, by go_grown⟩
set_option maxHeartbeats 800000 in
theorem eqSame (op a b : Int) (w : World) :
    Calls Tryz.prog 112 #[.agg #[.int .i64 op, .int .i64 a, .int .i64 b], .agg #[.int .i64 op, .int .i64 a, .int .i64 b]] w fun e w' => e = .returned (.bool true) ∧ Below w.heap.size w w' := by
  go_enter Tryz.func112, Tryz.ntmps112
  go_wp2
  go_ret
  exact ⟨rfl, by go_grown⟩
theorem cell_lt {w : World} {p : Addr} {v : Value} (h : w.cell? p = some v) : p.block < w.heap.size := by
  refine Nat.lt_of_not_le fun hn => ?_
  have hnone : w.heap[p.block]? = none := Array.getElem?_eq_none hn
  simp [World.cell?, hnone] at h
/-- Three cells of a block stand in what has grown out of the world. -/
theorem keep3 {u v : World} {k : Nat} {x y z : Value} (hb : Below u.heap.size u v) (h : u.cell? ⟨k, 0, none⟩ = some x ∧ u.cell? ⟨k, 1, none⟩ = some y ∧ u.cell? ⟨k, 2, none⟩ = some z) :
    v.cell? ⟨k, 0, none⟩ = some x ∧ v.cell? ⟨k, 1, none⟩ = some y ∧ v.cell? ⟨k, 2, none⟩ = some z :=
  ⟨(hb.cell (cell_lt h.1)).trans h.1, (hb.cell (cell_lt h.2.1)).trans h.2.1, (hb.cell (cell_lt h.2.2)).trans h.2.2⟩
end St
end Go.Proofs.YtinanjjhkddikaaGreat

/- Rows of steps, and whether all are right. -/
namespace Go.Proofs.YtinanjjhkddikaaGreat
namespace St
open Go.ChangeShapes Go.WideShapes Go.ChangeAt Go.RowKit

theorem below_over {w u w' : World} (h : Below w.heap.size w u) (h2 : Below u.heap.size u w') : Below w.heap.size w w' := h.trans (h2.mono h.size)
/-- The steps l lie in block g from place o on. -/
def Row (w : World) (g o : Nat) (l : List Tx.Ins) : Prop := ∀ j x, l[j]? = some x →
  w.cell? ⟨g, o + j * 3, none⟩ = some (.int .i64 x.1) ∧ w.cell? ⟨g, o + j * 3 + 1, none⟩ = some (.int .i64 x.2.1) ∧ w.cell? ⟨g, o + j * 3 + 2, none⟩ = some (.int .i64 x.2.2)
theorem Row.on {u v : World} {g o : Nat} {l : List Tx.Ins} (h : Row u g o l) (hb : Below u.heap.size u v) : Row v g o l := by
  intro j x hj
  obtain ⟨h0, h1, h2⟩ := h j x hj
  have l0 : g < u.heap.size := cell_lt h0
  exact ⟨(hb.cell l0).trans h0, (hb.cell l0).trans h1, (hb.cell l0).trans h2⟩
theorem Row.below {B : Nat} {u v : World} {g o : Nat} {l : List Tx.Ins} (h : Row u g o l) (hb : Below B u v) (hg : g < B) : Row v g o l := by
  intro j x hj
  obtain ⟨h0, h1, h2⟩ := h j x hj
  exact ⟨(hb.cell hg).trans h0, (hb.cell hg).trans h1, (hb.cell hg).trans h2⟩

theorem all_take {l : List Tx.Ins} {k : Nat} (hk : k < l.length) (h : (l.take k).all Tx.okT = true) (hx : Tx.okT l[k] = true) : (l.take (k + 1)).all Tx.okT = true := by
  rw [List.take_succ_eq_append_getElem hk, List.all_append, h]; simp [hx]

set_option maxHeartbeats 800000 in
theorem each_at (g cap : Nat) (l : List Tx.Ins) (hl : l.length ≤ 1048576) (w : World) (hr : Row w g 0 l) :
    Calls Tryz.prog 84 #[.slice (some ⟨g, 0, none⟩) l.length cap] w fun e w' => e = .returned (.bool (Tx.okC l)) ∧ Below w.heap.size w w' := by
  have HR : Hid (Row w g 0 l) := hr
  clear hr
  go_enter Tryz.func84, Tryz.ntmps84
  go_wp2
  go_loopw [3] (fun i wr => ∃ k : Nat, k ≤ l.length ∧ i = .int .i64 k ∧ Hid ((l.take k).all Tx.okT = true) ∧ Below w.heap.size w wr) (fun i _ => l.length - (intOf i).toNat)
  case atStart => exact ⟨0, Nat.zero_le _, rfl, rfl, Below.refl _ _⟩
  case round =>
    obtain ⟨k, hk, rfl, hall, hb⟩ := hrel
    by_cases hlt : k < l.length
    · obtain ⟨h0, h1, h2⟩ := HR.out.below hb (cell_lt (HR.out k _ (List.getElem?_eq_getElem hlt)).1) k _ (List.getElem?_eq_getElem hlt)
      obtain ⟨x, hx⟩ : ∃ x, x = l[k] := ⟨_, rfl⟩
      rw [← hx] at h0 h1 h2
      have HX : Hid (x = l[k]) := hx
      clear hx
      simp only [Nat.zero_add] at h0 h1 h2
      go_wp2_with fail
      refine (specOk x.1 x.2.1 x.2.2 _).mono ?_
      rintro e w1 ⟨rfl, hb1⟩
      have hw1 : Below w.heap.size w w1 := below_over hb hb1
      clear hb1 h0 h1 h2
      cases hok : Tx.okI x.1 x.2.1 x.2.2
      · have HN : Hid (Tx.okC l = false) := by
          show Tx.okC l = false
          have hm : l[k] ∈ l := List.getElem_mem hlt
          have h2 : l.all Tx.okT = false := by
            cases hh : l.all Tx.okT
            · rfl
            · have := List.all_eq_true.1 hh _ hm
              rw [← HX.out] at this
              simp only [Tx.okT, hok] at this
              simp at this
          simp [Tx.okC, h2]
        go_wp2
        go_ret
        exact ⟨retB HN.out.symm, hw1⟩
      · have HA : Hid ((l.take (k + 1)).all Tx.okT = true) := all_take hlt hall.out (by rw [← HX.out]; exact hok)
        go_wp2
        go_roundw
        case rel => exact ⟨k + 1, by omega, by go_num, HA.out, hw1⟩
        case measure => simp [intOf]; omega
    · have HN : Hid (Tx.okC l = decide ((l.length : Int) ≤ 40)) := by
        show Tx.okC l = decide ((l.length : Int) ≤ 40)
        have e : l.take k = l := List.take_of_length_le (by omega)
        have := hall.out
        rw [e] at this
        unfold Tx.okC
        rw [this, Bool.and_true, Bool.eq_iff_iff]
        simp
        omega
      go_wp2
      go_ret
      exact ⟨retB HN.out.symm, hb⟩

end St
end Go.Proofs.YtinanjjhkddikaaGreat

/- Contracts of the laws' own functions on rows of steps. -/
namespace Go.Proofs.YtinanjjhkddikaaGreat
namespace St
open Go.ChangeShapes Go.WideShapes Go.ChangeAt Go.RowKit

theorem infoI : (Tryz.prog.info? 73).map (fun i => (i.zero, i.size, i.bytes)) = some (some (.agg #[.int .i64 0, .int .i64 0, .int .i64 0]), 3, 24) := by kernel_rfl

/-- The first n cells of block g are there and may be written. -/
def Room (w : World) (g n : Nat) : Prop := ∀ i, i < n → (∃ v, w.cell? ⟨g, i, none⟩ = some v) ∧ w.frozen? ⟨g, i, none⟩ = false
theorem Room.on {u v : World} {g n : Nat} (h : Room u g n) (hb : Below u.heap.size u v) : Room v g n := by
  intro i hi
  obtain ⟨⟨x, hx⟩, hf⟩ := h i hi
  have l : g < u.heap.size := cell_lt hx
  exact ⟨⟨x, (hb.cell l).trans hx⟩, (hb.frozen l).trans hf⟩
theorem Room.set {w : World} {g n : Nat} (h : Room w g n) (p : Addr) (v : Value) : Room (w.setCell p v) g n := by
  intro i hi
  obtain ⟨⟨x, hx⟩, hf⟩ := h i hi
  refine ⟨?_, by simpa using hf⟩
  by_cases e : p = ⟨g, i, none⟩
  · subst e; exact ⟨v, World.cell?_setCell_same _ _ _ hx⟩
  · exact ⟨x, (World.cell?_setCell_other _ _ _ _ e).trans hx⟩
theorem room_own {w : World} {B e n g cap q : Nat} {xs : List Value} (h : w.ownsRow B e q (.slice (some ⟨g, 0, none⟩) n cap) n xs) (hn : n ≤ cap) : Room w g (n * q) := by
  intro i hi
  obtain ⟨_, h | ⟨g', cap', cur, hv, _, hblk, _, _, hsz, _⟩⟩ := h
  · simp at h
  · injection hv with h1 h2 h3
    simp at h1
    subst h1 h3
    have hc : i < cur.size := by rw [hsz]; exact Nat.lt_of_lt_of_le hi (Nat.mul_le_mul_right _ hn)
    refine ⟨⟨cur[i], ?_⟩, ?_⟩
    · simp [World.cell?, hblk, hc]
    · simp [World.frozen?, hblk]

theorem row_made_lt {w : World} {B e n g cap q : Nat} {xs : List Value} (h : w.ownsRow B e q (.slice (some ⟨g, 0, none⟩) n cap) n xs) : g < w.heap.size := by
  obtain ⟨_, h | ⟨g', cap', cur, hv, _, hblk, _⟩⟩ := h
  · simp at h
  · injection hv with h1 h2 h3
    simp at h1
    subst h1
    rcases Nat.lt_or_ge g w.heap.size with h | h
    · exact h
    · rw [Array.getElem?_eq_none h] at hblk
      simp at hblk

/-- Three cells written: what the row then holds. -/
theorem row_next {w : World} {g k : Nat} {l : List Tx.Ins} (hk : k < l.length) (hroom : Room w g (l.length * 3)) (hr : Row w g 0 (l.take k)) :
    Row (((w.setCell ⟨g, k * 3, none⟩ (.int .i64 l[k].1)).setCell ⟨g, k * 3 + 1, none⟩ (.int .i64 l[k].2.1)).setCell ⟨g, k * 3 + 2, none⟩ (.int .i64 l[k].2.2)) g 0 (l.take (k + 1)) := by
  have ne : ∀ a b : Nat, a ≠ b → (⟨g, a, none⟩ : Addr) ≠ ⟨g, b, none⟩ := fun a b h e => h (congrArg Addr.off e)
  have far : ∀ i, i < k * 3 → ∀ u, w.cell? ⟨g, i, none⟩ = some u → (((w.setCell ⟨g, k * 3, none⟩ (.int .i64 l[k].1)).setCell ⟨g, k * 3 + 1, none⟩ (.int .i64 l[k].2.1)).setCell ⟨g, k * 3 + 2, none⟩ (.int .i64 l[k].2.2)).cell? ⟨g, i, none⟩ = some u := by
    intro i hi u hu
    rw [World.cell?_setCell_other _ _ _ _ (ne _ _ (by omega)), World.cell?_setCell_other _ _ _ _ (ne _ _ (by omega)), World.cell?_setCell_other _ _ _ _ (ne _ _ (by omega))]
    exact hu
  obtain ⟨⟨x0, h0⟩, _⟩ := hroom (k * 3) (by omega)
  obtain ⟨⟨x1, h1⟩, _⟩ := hroom (k * 3 + 1) (by omega)
  obtain ⟨⟨x2, h2⟩, _⟩ := hroom (k * 3 + 2) (by omega)
  intro j x hj
  rw [List.getElem?_take] at hj
  split at hj
  · rename_i hjk
    by_cases e : j = k
    · subst e
      rw [List.getElem?_eq_getElem hk] at hj
      injection hj with hj
      subst hj
      rw [Nat.zero_add]
      refine ⟨?_, ?_, ?_⟩
      · rw [World.cell?_setCell_other _ _ _ _ (ne _ _ (by omega)), World.cell?_setCell_other _ _ _ _ (ne _ _ (by omega))]
        exact World.cell?_setCell_same _ _ _ h0
      · rw [World.cell?_setCell_other _ _ _ _ (ne _ _ (by omega))]
        exact World.cell?_setCell_same _ _ _ ((World.cell?_setCell_other _ _ _ _ (ne _ _ (by omega))).trans h1)
      · exact World.cell?_setCell_same _ _ _ ((World.cell?_setCell_other _ _ _ _ (ne _ _ (by omega))).trans ((World.cell?_setCell_other _ _ _ _ (ne _ _ (by omega))).trans h2))
    · have hjt : (l.take k)[j]? = some x := by rw [List.getElem?_take, if_pos (by omega)]; exact hj
      obtain ⟨a0, a1, a2⟩ := hr j x hjt
      rw [Nat.zero_add] at a0 a1 a2 ⊢
      exact ⟨far _ (by omega) _ a0, far _ (by omega) _ a1, far _ (by omega) _ a2⟩
  · simp at hj

set_option maxRecDepth 100000 in
set_option maxHeartbeats 1000000 in
theorem toRowS (a : Option Addr) (cap : Nat) (l : List Tx.Ins) (hl : l.length ≤ 1048576) (w : World) (hr : 0 < l.length → ∃ b o, a = some ⟨b, o, none⟩ ∧ Row w b o l) :
    Calls Tryz.prog 99 #[.slice a l.length cap] w fun e w' => e = .returned (.slice (some ⟨w.heap.size, 0, none⟩) l.length l.length) ∧ Row w' w.heap.size 0 l ∧ Room w' w.heap.size (l.length * 3) ∧ w.heap.size < w'.heap.size ∧ Below w.heap.size w w' := by
  obtain ⟨i0, hi, hz0, hz1, hz2⟩ := info_parts infoI
  have HR : Hid (0 < l.length → ∃ b o, a = some ⟨b, o, none⟩ ∧ Row w b o l) := hr
  clear hr
  go_enter Tryz.func99, Tryz.ntmps99
  go_wp2_with (at_make; refine wpList_make_full _ rfl _ _ 53 rfl w.heap.size 73 i0 (.agg #[.int .i64 0, .int .i64 0, .int .i64 0]) 3 Tryz.underlying53 hi hz0 hz1 .i64 .i64 _ _ l.length rfl rfl rfl rfl (by rw [hz2]; omega) (by unfold maxLen; omega) (Nat.le_refl _) ?_; intro w0 hown0 hgrow0)
  have hroom := room_own hown0 (Nat.le_refl _)
  have hsz0 : w.heap.size < w0.heap.size := row_made_lt hown0
  have hb0 : Below w.heap.size w w0 := (Below.refl _ _).grown hgrow0 (Nat.le_refl _) (fun _ h => by simp at h)
  clear hown0 hgrow0
  go_loopw [4] (fun i wr => ∃ k : Nat, k ≤ l.length ∧ i = .int .i64 k ∧ Hid (Room wr w.heap.size (l.length * 3)) ∧ Hid (Row wr w.heap.size 0 (l.take k)) ∧ w.heap.size < wr.heap.size ∧ Below w.heap.size w wr) (fun i _ => l.length - (intOf i).toNat)
  case atStart => exact ⟨0, Nat.zero_le _, rfl, hroom, fun j x h => by simp at h, hsz0, hb0⟩
  case round =>
    obtain ⟨k, hk, rfl, hrm, hrw, hsz, hb⟩ := hrel
    by_cases hlt : k < l.length
    · obtain ⟨b, o, rfl, hrow⟩ := HR.out (by omega)
      obtain ⟨h0, h1, h2⟩ := hrow.on hb k _ (List.getElem?_eq_getElem hlt)
      obtain ⟨⟨x0, d0⟩, f0⟩ := hrm.out (k * 3) (by omega)
      obtain ⟨⟨x1, d1⟩, f1⟩ := hrm.out (k * 3 + 1) (by omega)
      obtain ⟨⟨x2, d2⟩, f2⟩ := hrm.out (k * 3 + 2) (by omega)
      have HN : Hid (∀ u, Below wr.heap.size wr u → Row (((u.setCell ⟨w.heap.size, k * 3, none⟩ (.int .i64 l[k].1)).setCell ⟨w.heap.size, k * 3 + 1, none⟩ (.int .i64 l[k].2.1)).setCell ⟨w.heap.size, k * 3 + 2, none⟩ (.int .i64 l[k].2.2)) w.heap.size 0 (l.take (k + 1))) :=
        fun u hu => row_next hlt (hrm.out.on hu) (hrw.out.on hu)
      generalize l[k] = x at *
      clear hrow
      go_wp2_with fail
      refine (toInsn x.1 x.2.1 x.2.2 _).mono ?_
      rintro e w1 ⟨rfl, hb1⟩
      have hw1 : Below w.heap.size w w1 := below_over hb hb1
      have hsz1 : w.heap.size < w1.heap.size := Nat.lt_of_lt_of_le hsz hb1.size
      have l0 : w.heap.size < wr.heap.size := cell_lt d0
      have d0' := (hb1.cell l0).trans d0
      have d1' := (hb1.cell l0).trans d1
      have d2' := (hb1.cell l0).trans d2
      have f0' := (hb1.frozen l0).trans f0
      have f1' := (hb1.frozen l0).trans f1
      have f2' := (hb1.frozen l0).trans f2
      have HRM : Hid (Room w1 w.heap.size (l.length * 3)) := hrm.out.on hb1
      have HNX := HN.out w1 hb1
      have HNXX : Hid (Row (((w1.setCell ⟨w.heap.size, k * 3, none⟩ (.int .i64 x.1)).setCell ⟨w.heap.size, k * 3 + 1, none⟩ (.int .i64 x.2.1)).setCell ⟨w.heap.size, k * 3 + 2, none⟩ (.int .i64 x.2.2)) w.heap.size 0 (l.take (k + 1))) := HNX
      clear d0 d1 d2 f0 f1 f2 h0 h1 h2 hb1 hrm hrw HN HNX hb
      go_wp2
      go_roundw
      case rel => exact ⟨k + 1, by omega, by go_num, ((HRM.out.set _ _).set _ _).set _ _, HNXX.out, by simpa using hsz1, ((hw1.setCell (Nat.le_refl _) _).setCell (Nat.le_refl _) _).setCell (Nat.le_refl _) _⟩
      case measure => simp [intOf]; omega
    · have e : l.take k = l := List.take_of_length_le (by omega)
      have HE := hrw.out
      rw [e] at HE
      have HEE : Hid (Row wr w.heap.size 0 l) := HE
      clear HE e
      go_wp2
      go_ret
      exact ⟨rfl, HEE.out, hrm.out, hsz, hb⟩
theorem toRow (a : Option Addr) (cap : Nat) (l : List Tx.Ins) (hl : l.length ≤ 1048576) (w : World) (hr : 0 < l.length → ∃ b o, a = some ⟨b, o, none⟩ ∧ Row w b o l) :
    Calls Tryz.prog 99 #[.slice a l.length cap] w fun e w' => e = .returned (.slice (some ⟨w.heap.size, 0, none⟩) l.length l.length) ∧ Row w' w.heap.size 0 l ∧ Room w' w.heap.size (l.length * 3) ∧ Below w.heap.size w w' :=
  (toRowS a cap l hl w hr).mono fun _ _ ⟨h1, h2, h3, _, h5⟩ => ⟨h1, h2, h3, h5⟩
set_option maxHeartbeats 1000000 in
theorem eqRows (g g' cap cap' : Nat) (l : List Tx.Ins) (hl : l.length ≤ 1048576) (w : World) (h1 : Row w g 0 l) (h2 : Row w g' 0 l) :
    Calls Tryz.prog 100 #[.slice (some ⟨g, 0, none⟩) l.length cap, .slice (some ⟨g', 0, none⟩) l.length cap'] w fun e w' => e = .returned (.bool true) ∧ Below w.heap.size w w' := by
  have H1 : Hid (Row w g 0 l) := h1
  have H2 : Hid (Row w g' 0 l) := h2
  clear h1 h2
  go_enter Tryz.func100, Tryz.ntmps100
  go_wp2
  go_loopw [5] (fun i wr => ∃ k : Nat, k ≤ l.length ∧ i = .int .i64 k ∧ Below w.heap.size w wr) (fun i _ => l.length - (intOf i).toNat)
  case atStart => exact ⟨0, Nat.zero_le _, rfl, Below.refl _ _⟩
  case round =>
    obtain ⟨k, hk, rfl, hb⟩ := hrel
    by_cases hlt : k < l.length
    · obtain ⟨a0, a1, a2⟩ := H1.out.on hb k _ (List.getElem?_eq_getElem hlt)
      obtain ⟨b0, b1, b2⟩ := H2.out.on hb k _ (List.getElem?_eq_getElem hlt)
      generalize l[k] = x at *
      simp only [Nat.zero_add] at a0 a1 a2 b0 b1 b2
      have hki : (k : Int) < (l.length : Int) := by omega
      have hki0 : (0 : Int) ≤ (k : Int) := by omega
      have r0 := cell_regrown a0
      have r1 := cell_regrown a1
      have r2 := cell_regrown a2
      have s0 := cell_regrown b0
      have s1 := cell_regrown b1
      have s2 := cell_regrown b2
      have cE : ∀ d os, Calls Tryz.prog 112 #[.agg #[.int .i64 x.1, .int .i64 x.2.1, .int .i64 x.2.2], .agg #[.int .i64 x.1, .int .i64 x.2.1, .int .i64 x.2.2]] (Sort.grow (redrawn wr d) os) fun e w'' => e = .returned (.bool true) ∧ ∃ p : Regrown, w'' = Sort.grow (redrawn wr p.d) p.os := fun d os => Calls.regrown_of (eqSame x.1 x.2.1 x.2.2 _)
      go_wp2_with fail
      refine wp_region_quiet_below (by kernel_rfl) (by kernel_rfl) ?_
      repeat (quiet_step ((go_at_call 112; exact cE _ _)))
      refine wpQuiet_nil ?_
      intro _ hw'
      obtain ⟨⟨dq, osq⟩, hw''⟩ := hw'
      subst hw''
      have hw1 : Below w.heap.size w (Sort.grow (redrawn wr dq) osq) := below_over hb (below_regrown wr dq osq)
      clear a0 a1 a2 b0 b1 b2 r0 r1 r2 s0 s1 s2 cE hb
      generalize Sort.grow (redrawn wr dq) osq = w1 at *
      go_wp2
      go_roundw
      case rel => exact ⟨k + 1, by omega, by go_num, hw1⟩
      case measure => simp [intOf]; omega
    · go_wp2
      go_ret
      exact ⟨rfl, hb⟩
end St
end Go.Proofs.YtinanjjhkddikaaGreat

/- Contracts of the laws' marking of a row of steps. -/
namespace Go.Proofs.YtinanjjhkddikaaGreat
namespace St
open Go.ChangeShapes Go.WideShapes Go.ChangeAt Go.RowKit

/-- The marks 1, 2, 3 .. -/
def marks (n : Nat) : List Tx.Ins := (List.range n).map fun (j : Nat) => (((j : Int) * 3 + 1, (j : Int) * 3 + 2, (j : Int) * 3 + 3) : Tx.Ins)
theorem marks_len (n : Nat) : (marks n).length = n := by simp [marks]
theorem marks_at {n k : Nat} (h : k < n) : (marks n)[k]? = some ((k : Int) * 3 + 1, (k : Int) * 3 + 2, (k : Int) * 3 + 3) := by simp [marks, h]

/-- Only block g has turned. -/
structure Only (g : Nat) (u v : World) : Prop where
  os : v.os = u.os
  tape : v.tape = u.tape
  output : v.output = u.output
  size : v.heap.size = u.heap.size
  block : ∀ k, k ≠ g → v.heap[k]? = u.heap[k]?
theorem Only.refl (g : Nat) (w : World) : Only g w w := ⟨rfl, rfl, rfl, rfl, fun _ _ => rfl⟩
theorem Only.set {g : Nat} {u v : World} (h : Only g u v) (o : Nat) (x : Value) : Only g u (v.setCell ⟨g, o, none⟩ x) := by
  have hb := (Below.refl 0 v).setCell (p := ⟨g, o, none⟩) (Nat.zero_le _) x
  exact ⟨hb.os.trans h.os, hb.tape.trans h.tape, hb.output.trans h.output, by simp [h.size], fun k hk => (Below.heap_setCell v ⟨g, o, none⟩ x k hk).trans (h.block k hk)⟩
theorem Only.row {g g' o : Nat} {u v : World} {l : List Tx.Ins} (h : Only g u v) (hne : g' ≠ g) (hr : Row u g' o l) : Row v g' o l := by
  intro j x hj
  obtain ⟨a, b, c⟩ := hr j x hj
  exact ⟨(World.cell?_of_block (w := u) (h.block g' hne)).trans a, (World.cell?_of_block (w := u) (h.block g' hne)).trans b, (World.cell?_of_block (w := u) (h.block g' hne)).trans c⟩
theorem Only.below {g B : Nat} {u v : World} (h : Only g u v) (hg : B ≤ g) : Below B u v :=
  ⟨h.os, h.tape, h.output, by rw [h.size]; exact Nat.le_refl _, fun k hk => h.block k (by omega)⟩

set_option maxRecDepth 100000 in
set_option maxHeartbeats 1000000 in
theorem mark_at (g cap n : Nat) (hn : n ≤ 1048576) (w : World) (hr : Room w g (n * 3)) :
    Calls Tryz.prog 72 #[.slice (some ⟨g, 0, none⟩) n cap, .int .i64 1] w fun e w' => e = .returned (.int .i64 ((n : Int) * 3 + 1)) ∧ Row w' g 0 (marks n) ∧ Room w' g (n * 3) ∧ Only g w w' := by
  have HR : Hid (Room w g (n * 3)) := hr
  clear hr
  go_enter Tryz.func72, Tryz.ntmps72
  go_wp2
  go_loopw [1, 5] (fun m i wr => ∃ k : Nat, k ≤ n ∧ i = .int .i64 k ∧ m = .int .i64 ((k : Int) * 3 + 1) ∧ Hid (Room wr g (n * 3)) ∧ Hid (Row wr g 0 ((marks n).take k)) ∧ Hid (Only g w wr)) (fun _ i _ => n - (intOf i).toNat)
  case atStart => exact ⟨0, Nat.zero_le _, rfl, rfl, HR.out, fun j x h => by simp at h, Only.refl _ _⟩
  case round =>
    obtain ⟨k, hk, rfl, rfl, hrm, hrw, hon⟩ := hrel
    by_cases hlt : k < n
    · have hki : (k : Int) < (n : Int) := by omega
      obtain ⟨⟨x0, d0⟩, f0⟩ := hrm.out (k * 3) (by omega)
      obtain ⟨⟨x1, d1⟩, f1⟩ := hrm.out (k * 3 + 1) (by omega)
      obtain ⟨⟨x2, d2⟩, f2⟩ := hrm.out (k * 3 + 2) (by omega)
      have hml : k < (marks n).length := by rw [marks_len]; exact hlt
      have HN := row_next hml (by rw [marks_len]; exact hrm.out) hrw.out
      have hmk : (marks n)[k] = ((k : Int) * 3 + 1, (k : Int) * 3 + 2, (k : Int) * 3 + 3) := by
        have := marks_at hlt
        rw [List.getElem?_eq_getElem hml] at this
        simpa using this
      rw [hmk] at HN
      have e2 : (k : Int) * 3 + 2 = (k : Int) * 3 + 1 + 1 := by omega
      have e3 : (k : Int) * 3 + 3 = (k : Int) * 3 + 1 + 1 + 1 := by omega
      simp only [e2, e3] at HN
      have HNX : Hid (Row (((wr.setCell ⟨g, k * 3, none⟩ (.int .i64 ((k : Int) * 3 + 1))).setCell ⟨g, k * 3 + 1, none⟩ (.int .i64 ((k : Int) * 3 + 1 + 1))).setCell ⟨g, k * 3 + 2, none⟩ (.int .i64 ((k : Int) * 3 + 1 + 1 + 1))) g 0 ((marks n).take (k + 1))) := HN
      clear HN hmk hml e2 e3
      go_wp2
      go_roundw
      case rel => exact ⟨k + 1, by omega, by go_num, by go_num, ((hrm.out.set _ _).set _ _).set _ _, HNX.out, ((hon.out.set _ _).set _ _).set _ _⟩
      case measure => simp [intOf]; omega
    · have e : (marks n).take k = marks n := List.take_of_length_le (by rw [marks_len]; omega)
      have hkn : k = n := by omega
      have HE := hrw.out
      rw [e] at HE
      have HEE : Hid (Row wr g 0 (marks n)) := HE
      have HKN : Hid (k = n) := hkn
      clear HE e hkn
      go_wp2
      go_ret
      exact ⟨by rw [← HKN.out]; rfl, HEE.out, hrm.out, hon.out⟩

end St
end Go.Proofs.YtinanjjhkddikaaGreat

/- Rows of numbers: what the laws' own functions do with them. -/
namespace Go.Proofs.YtinanjjhkddikaaGreat
namespace St
open Go.ChangeShapes Go.WideShapes Go.ChangeAt Go.RowKit

/-- The numbers l lie in block g from place o on. -/
def IRow (w : World) (g o : Nat) (l : List Int) : Prop := ∀ j x, l[j]? = some x → w.cell? ⟨g, o + j, none⟩ = some (.int .i64 x)
theorem IRow.on {u v : World} {g o : Nat} {l : List Int} (h : IRow u g o l) (hb : Below u.heap.size u v) : IRow v g o l := fun j x hj => (hb.cell (cell_lt (h j x hj))).trans (h j x hj)
theorem IRow.below {B : Nat} {u v : World} {g o : Nat} {l : List Int} (h : IRow u g o l) (hb : Below B u v) (hg : g < B) : IRow v g o l := fun j x hj => (hb.cell hg).trans (h j x hj)
theorem Only.irow {g g' o : Nat} {u v : World} {l : List Int} (h : Only g u v) (hne : g' ≠ g) (hr : IRow u g' o l) : IRow v g' o l := fun j x hj => (World.cell?_of_block (w := u) (h.block g' hne)).trans (hr j x hj)
theorem Only.room {g g' n : Nat} {u v : World} (h : Only g u v) (hne : g' ≠ g) (hr : Room u g' n) : Room v g' n := by
  intro i hi
  obtain ⟨⟨x, hx⟩, hf⟩ := hr i hi
  exact ⟨⟨x, (World.cell?_of_block (w := u) (h.block g' hne)).trans hx⟩, (World.frozen?_of_block (w := u) (h.block g' hne)).trans hf⟩
theorem IRow.nil (w : World) (g o : Nat) : IRow w g o [] := fun j x h => by simp at h
/-- One more number written behind those that lie there. -/
theorem irow_next {w : World} {g k : Nat} {l : List Int} (hk : k < l.length) (hroom : Room w g l.length) (hr : IRow w g 0 (l.take k)) : IRow (w.setCell ⟨g, k, none⟩ (.int .i64 l[k])) g 0 (l.take (k + 1)) := by
  intro j x hj
  rw [List.getElem?_take] at hj
  split at hj
  · rename_i hjk
    rw [Nat.zero_add]
    by_cases e : j = k
    · subst e
      rw [List.getElem?_eq_getElem hk] at hj
      injection hj with hj
      subst hj
      obtain ⟨⟨y, hy⟩, _⟩ := hroom j hk
      exact World.cell?_setCell_same _ _ _ hy
    · have hjt : (l.take k)[j]? = some x := by rw [List.getElem?_take, if_pos (by omega)]; exact hj
      have := hr j x hjt
      rw [Nat.zero_add] at this
      exact (World.cell?_setCell_other _ _ _ _ (fun e' => e (congrArg Addr.off e').symm)).trans this
  · simp at hj
/-- One number of a row written anew. -/
theorem irow_set {w : World} {g k : Nat} {l : List Int} (x : Int) (hr : IRow w g 0 l) : IRow (w.setCell ⟨g, k, none⟩ (.int .i64 x)) g 0 (l.set k x) := by
  intro j y hj
  rw [Nat.zero_add]
  rw [List.getElem?_set] at hj
  by_cases e : k = j
  · subst e
    by_cases hk : k < l.length
    · rw [if_pos rfl, if_pos hk] at hj
      injection hj with hj
      subst hj
      have := hr k _ (List.getElem?_eq_getElem hk)
      rw [Nat.zero_add] at this
      exact World.cell?_setCell_same _ _ _ this
    · rw [if_pos rfl, if_neg hk] at hj
      simp at hj
  · rw [if_neg e] at hj
    have := hr j y hj
    rw [Nat.zero_add] at this
    exact (World.cell?_setCell_other _ _ _ _ (fun e' => e (congrArg Addr.off e'))).trans this

theorem made_lt {w : World} {B e n g cap q : Nat} {xs : List Value} (h : w.ownsRow B e q (.slice (some ⟨g, 0, none⟩) n cap) n xs) : g < w.heap.size := by
  obtain ⟨_, h | ⟨g', cap', cur, hv, _, hblk, _⟩⟩ := h
  · simp at h
  · injection hv with h1 h2 h3
    simp at h1
    subst h1
    rcases Nat.lt_or_ge g w.heap.size with h | h
    · exact h
    · rw [Array.getElem?_eq_none h] at hblk
      simp at hblk

theorem irow_made {w : World} {B e n g cap : Nat} (h : w.ownsRow B e 1 (.slice (some ⟨g, 0, none⟩) n cap) n (madeCells (Value.int .i64 0).cells (n * 1)).toList) : IRow w g 0 (List.replicate n 0) := by
  intro j x hj
  rw [List.getElem?_replicate] at hj
  split at hj
  · rename_i hjn
    injection hj with hj
    subst hj
    have := World.ownsRow.cells h (g := g) rfl j (.int .i64 0) (by
      rw [Nat.mul_one]
      show (madeCells #[.int .i64 0] n).toList[j]? = _
      rw [toList_madeCells_one, List.getElem?_replicate, if_pos hjn])
    simp only [Go.WideShapes.add_plain, Nat.zero_add] at this
    simpa using this
  · simp at hj

theorem infoN : (Tryz.prog.info? 2).map (fun i => (i.zero, i.size, i.bytes)) = some (some (.int .i64 0), 1, 8) := by kernel_rfl

set_option maxRecDepth 100000 in
set_option maxHeartbeats 1000000 in
theorem toInts (a : Option Addr) (cap : Nat) (l : List Int) (hl : l.length ≤ 1048576) (w : World) (hr : 0 < l.length → ∃ b o, a = some ⟨b, o, none⟩ ∧ IRow w b o l) :
    Calls Tryz.prog 21 #[.slice a l.length cap] w fun e w' => e = .returned (.slice (some ⟨w.heap.size, 0, none⟩) l.length l.length) ∧ IRow w' w.heap.size 0 l ∧ Room w' w.heap.size l.length ∧ w.heap.size < w'.heap.size ∧ Below w.heap.size w w' := by
  obtain ⟨i0, hi, hz0, hz1, hz2⟩ := info_parts infoN
  have HR : Hid (0 < l.length → ∃ b o, a = some ⟨b, o, none⟩ ∧ IRow w b o l) := hr
  clear hr
  go_enter Tryz.func21, Tryz.ntmps21
  go_wp2_with (at_make; refine wpList_make_full _ rfl _ _ 26 rfl w.heap.size 2 i0 (.int .i64 0) 1 Tryz.underlying26 hi hz0 hz1 .i64 .i64 _ _ l.length rfl rfl rfl rfl (by rw [hz2]; omega) (by unfold maxLen; omega) (Nat.le_refl _) ?_; intro w0 hown0 hgrow0)
  have hroom := room_own hown0 (Nat.le_refl _)
  rw [Nat.mul_one] at hroom
  have hsz0 : w.heap.size < w0.heap.size := made_lt hown0
  have hb0 : Below w.heap.size w w0 := (Below.refl _ _).grown hgrow0 (Nat.le_refl _) (fun _ h => by simp at h)
  clear hown0 hgrow0
  go_loopw [4] (fun i wr => ∃ k : Nat, k ≤ l.length ∧ i = .int .i64 k ∧ Hid (Room wr w.heap.size l.length) ∧ Hid (IRow wr w.heap.size 0 (l.take k)) ∧ w.heap.size < wr.heap.size ∧ Below w.heap.size w wr) (fun i _ => l.length - (intOf i).toNat)
  case atStart => exact ⟨0, Nat.zero_le _, rfl, hroom, fun j x h => by simp at h, hsz0, hb0⟩
  case round =>
    obtain ⟨k, hk, rfl, hrm, hrw, hsz, hb⟩ := hrel
    by_cases hlt : k < l.length
    · obtain ⟨b, o, rfl, hrow⟩ := HR.out (by omega)
      have h0 := hrow.on hb k _ (List.getElem?_eq_getElem hlt)
      obtain ⟨⟨x0, d0⟩, f0⟩ := hrm.out k hlt
      have HN : Hid (IRow (wr.setCell ⟨w.heap.size, k, none⟩ (.int .i64 l[k])) w.heap.size 0 (l.take (k + 1))) := irow_next hlt hrm.out hrw.out
      generalize l[k] = x at *
      clear hrow
      go_wp2
      go_roundw
      case rel => exact ⟨k + 1, by omega, by go_num, hrm.out.set _ _, HN.out, by simpa using hsz, hb.setCell (Nat.le_refl _) _⟩
      case measure => simp [intOf]; omega
    · have e : l.take k = l := List.take_of_length_le (by omega)
      have HE := hrw.out
      rw [e] at HE
      have HEE : Hid (IRow wr w.heap.size 0 l) := HE
      clear HE e
      go_wp2
      go_ret
      exact ⟨rfl, HEE.out, hrm.out, hsz, hb⟩
set_option maxHeartbeats 1000000 in
theorem eqInts (g g' cap cap' : Nat) (l : List Int) (hl : l.length ≤ 1048576) (w : World) (h1 : IRow w g 0 l) (h2 : IRow w g' 0 l) :
    Calls Tryz.prog 11 #[.slice (some ⟨g, 0, none⟩) l.length cap, .slice (some ⟨g', 0, none⟩) l.length cap'] w fun e w' => e = .returned (.bool true) ∧ Below w.heap.size w w' := by
  have H1 : Hid (IRow w g 0 l) := h1
  have H2 : Hid (IRow w g' 0 l) := h2
  clear h1 h2
  go_enter Tryz.func11, Tryz.ntmps11
  go_wp2
  go_loopw [5] (fun i wr => ∃ k : Nat, k ≤ l.length ∧ i = .int .i64 k ∧ Below w.heap.size w wr) (fun i _ => l.length - (intOf i).toNat)
  case atStart => exact ⟨0, Nat.zero_le _, rfl, Below.refl _ _⟩
  case round =>
    obtain ⟨k, hk, rfl, hb⟩ := hrel
    by_cases hlt : k < l.length
    · have a0 := H1.out.on hb k _ (List.getElem?_eq_getElem hlt)
      have b0 := H2.out.on hb k _ (List.getElem?_eq_getElem hlt)
      generalize l[k] = x at *
      simp only [Nat.zero_add] at a0 b0
      have hki : (k : Int) < (l.length : Int) := by omega
      have hki0 : (0 : Int) ≤ (k : Int) := by omega
      have r0 := cell_regrown a0
      have s0 := cell_regrown b0
      go_wp2_with fail
      refine wp_region_quiet_below (by kernel_rfl) (by kernel_rfl) ?_
      repeat (quiet_step (fail))
      refine wpQuiet_nil ?_
      intro _ hw'
      obtain ⟨⟨dq, osq⟩, hw''⟩ := hw'
      subst hw''
      have hw1 : Below w.heap.size w (Sort.grow (redrawn wr dq) osq) := below_over hb (below_regrown wr dq osq)
      clear a0 b0 r0 s0 hb
      generalize Sort.grow (redrawn wr dq) osq = w1 at *
      go_wp2
      go_roundw
      case rel => exact ⟨k + 1, by omega, by go_num, hw1⟩
      case measure => simp [intOf]; omega
    · go_wp2
      go_ret
      exact ⟨rfl, hb⟩
/-- The marks k, k + 1, .. -/
def imarks (m n : Nat) : List Int := (List.range n).map fun (j : Nat) => (m : Int) + (j : Int)
theorem imarks_len (m n : Nat) : (imarks m n).length = n := by simp [imarks]
theorem imarks_at {m n k : Nat} (h : k < n) : (imarks m n)[k]? = some ((m : Int) + (k : Int)) := by simp [imarks, h]
set_option maxRecDepth 100000 in
set_option maxHeartbeats 1000000 in
theorem imark_at (g cap m n : Nat) (hm : m ≤ 4000000) (hn : n ≤ 1048576) (w : World) (hr : Room w g n) :
    Calls Tryz.prog 14 #[.slice (some ⟨g, 0, none⟩) n cap, .int .i64 m] w fun e w' => e = .returned (.int .i64 ((m : Int) + (n : Int))) ∧ IRow w' g 0 (imarks m n) ∧ Room w' g n ∧ Only g w w' := by
  have HR : Hid (Room w g n) := hr
  clear hr
  go_enter Tryz.func14, Tryz.ntmps14
  go_wp2
  go_loopw [1, 5] (fun q i wr => ∃ k : Nat, k ≤ n ∧ i = .int .i64 k ∧ q = .int .i64 ((m : Int) + (k : Int)) ∧ Hid (Room wr g n) ∧ Hid (IRow wr g 0 ((imarks m n).take k)) ∧ Hid (Only g w wr)) (fun _ i _ => n - (intOf i).toNat)
  case atStart => exact ⟨0, Nat.zero_le _, rfl, by simp, HR.out, fun j x h => by simp at h, Only.refl _ _⟩
  case round =>
    obtain ⟨k, hk, rfl, rfl, hrm, hrw, hon⟩ := hrel
    by_cases hlt : k < n
    · have hki : (k : Int) < (n : Int) := by omega
      obtain ⟨⟨x0, d0⟩, f0⟩ := hrm.out k hlt
      have hml : k < (imarks m n).length := by rw [imarks_len]; exact hlt
      have HN := irow_next hml (by rw [imarks_len]; exact hrm.out) hrw.out
      have hmk : (imarks m n)[k] = (m : Int) + (k : Int) := by
        have := imarks_at (m := m) hlt
        rw [List.getElem?_eq_getElem hml] at this
        simpa using this
      rw [hmk] at HN
      have HNX : Hid (IRow (wr.setCell ⟨g, k, none⟩ (.int .i64 ((m : Int) + (k : Int)))) g 0 ((imarks m n).take (k + 1))) := HN
      clear HN hmk hml
      go_wp2
      go_roundw
      case rel => exact ⟨k + 1, by omega, by go_num, by go_num, hrm.out.set _ _, HNX.out, hon.out.set _ _⟩
      case measure => simp [intOf]; omega
    · have e : (imarks m n).take k = imarks m n := List.take_of_length_le (by rw [imarks_len]; omega)
      have hkn : k = n := by omega
      have HE := hrw.out
      rw [e] at HE
      have HEE : Hid (IRow wr g 0 (imarks m n)) := HE
      have HKN : Hid (k = n) := hkn
      clear HE e hkn
      go_wp2
      go_ret
      exact ⟨by rw [← HKN.out]; rfl, HEE.out, hrm.out, hon.out⟩
set_option maxRecDepth 100000 in
set_option maxHeartbeats 1000000 in
theorem iheld_at (g cap m n : Nat) (hm : m ≤ 4000000) (hn : n ≤ 1048576) (w : World) (hr : IRow w g 0 (imarks m n)) :
    Calls Tryz.prog 15 #[.slice (some ⟨g, 0, none⟩) n cap, .int .i64 m] w fun e w' => e = .returned (.int .i64 ((m : Int) + (n : Int))) ∧ w = w' := by
  have HR : Hid (IRow w g 0 (imarks m n)) := hr
  clear hr
  go_enter Tryz.func15, Tryz.ntmps15
  go_wp2
  go_loop [1, 5] (fun q i => ∃ k : Nat, k ≤ n ∧ i = .int .i64 k ∧ q = .int .i64 ((m : Int) + (k : Int))) (fun _ i => n - (intOf i).toNat)
  case atStart => exact ⟨0, Nat.zero_le _, rfl, by simp⟩
  case round =>
    obtain ⟨k, hk, rfl, rfl⟩ := hrel
    by_cases hlt : k < n
    · have hki : (k : Int) < (n : Int) := by omega
      have h0 := HR.out k _ (imarks_at hlt)
      simp only [Nat.zero_add] at h0
      go_wp2
      go_round
      case rel => exact ⟨k + 1, by omega, by go_num, by go_num⟩
      case measure => simp [intOf]; omega
    · have HKN : Hid (k = n) := by show k = n; omega
      go_wp2
      go_ret
      exact ⟨by rw [← HKN.out]; rfl, rfl⟩
end St
end Go.Proofs.YtinanjjhkddikaaGreat

/- Plain facts on layouts: places, jumps that are too far, and that the least right layout is one alone. No program in it. -/
namespace Go.Proofs.YtinanjjhkddikaaGreat
namespace Lay

def jumpB (op : Int) : Bool := decide (op = 11) || decide (op = 12)
def codeOk (l : List Tx.Ins) : Bool := decide (0 < l.length) && Tx.okC l && l.all (fun x => !(jumpB x.1) || decide (x.2.1 < (l.length : Int)))
/-- The bytes of a step, without what a wide jump has more. -/
def bytesF (op a : Int) : Int :=
  if op = 1 then (if -128 ≤ a ∧ a ≤ 127 then 2 else 5)
  else if op = 2 ∨ op = 3 ∨ op = 11 ∨ op = 12 ∨ op = 14 ∨ op = 15 ∨ op = 16 then 2 else if op = 17 then 3 else 1
theorem bytes_bd (op a : Int) : 1 ≤ bytesF op a ∧ bytesF op a ≤ 5 := by unfold bytesF; (repeat' split) <;> omega

theorem ok_len {l : List Tx.Ins} (h : codeOk l = true) : 0 < l.length ∧ l.length ≤ 40 := by
  unfold codeOk Tx.okC at h
  simp only [Bool.and_eq_true, decide_eq_true_eq] at h
  exact ⟨h.1.1, h.1.2.1⟩
theorem ok_each {l : List Tx.Ins} (h : codeOk l = true) : Tx.okC l = true := by
  unfold codeOk at h
  simp only [Bool.and_eq_true, decide_eq_true_eq] at h
  exact h.1.2
theorem ok_at {l : List Tx.Ins} (h : codeOk l = true) {k : Nat} {x : Tx.Ins} (hx : l[k]? = some x) : Tx.okI x.1 x.2.1 x.2.2 = true := by
  have h1 := ok_each h
  unfold Tx.okC at h1
  simp only [Bool.and_eq_true, decide_eq_true_eq] at h1
  exact List.all_eq_true.1 h1.2 x (List.mem_of_getElem? hx)
theorem ok_jump {l : List Tx.Ins} (h : codeOk l = true) {k : Nat} {x : Tx.Ins} (hx : l[k]? = some x) (hj : jumpB x.1 = true) : 0 ≤ x.2.1 ∧ x.2.1 < (l.length : Int) := by
  have h0 := ok_at h hx
  unfold codeOk at h
  simp only [Bool.and_eq_true] at h
  have h1 := List.all_eq_true.1 h.2 x (List.mem_of_getElem? hx)
  simp [hj] at h1
  refine ⟨?_, h1⟩
  unfold jumpB at hj
  unfold Tx.okI at h0
  have e : ¬ x.1 = 1 := by
    intro e; rw [e] at hj; simp at hj
  rw [if_neg e] at h0
  simp only [Bool.and_eq_true, decide_eq_true_eq] at h0
  exact h0.1.1.1

/-- How wide step k is laid: what is not told is short. -/
def wd (v : List Int) (k : Nat) : Int := (v[k]?).getD 0
def ins (l : List Tx.Ins) (k : Nat) : Tx.Ins := (l[k]?).getD (0, 0, 0)
def sz (l : List Tx.Ins) (v : List Int) (k : Nat) : Int := bytesF (ins l k).1 (ins l k).2.1 + wd v k
/-- Where step k begins. -/
def pl (l : List Tx.Ins) (v : List Int) : Nat → Int
  | 0 => 0
  | k + 1 => pl l v k + sz l v k
def places (l : List Tx.Ins) (v : List Int) : List Int := (List.range (l.length + 1)).map (pl l v)
theorem places_len (l : List Tx.Ins) (v : List Int) : (places l v).length = l.length + 1 := by simp [places]
theorem places_at {l : List Tx.Ins} {v : List Int} {k : Nat} (h : k ≤ l.length) : (places l v)[k]? = some (pl l v k) := by
  have : k < l.length + 1 := by omega
  simp [places, this]

/-- A layout of the code: a 0 or 1 for each step, 1 for jumps alone. -/
def Wide (l : List Tx.Ins) (v : List Int) : Prop := v.length = l.length ∧ ∀ k, wd v k = 0 ∨ (wd v k = 1 ∧ jumpB (ins l k).1 = true)
def dist (l : List Tx.Ins) (v : List Int) (k : Nat) : Int := pl l v (ins l k).2.1.toNat - pl l v k
def offB (d : Int) : Bool := decide (d < -16) || decide (15 < d)
/-- A short jump that goes too far. -/
def far (l : List Tx.Ins) (v : List Int) (k : Nat) : Bool := jumpB (ins l k).1 && decide (wd v k = 0) && offB (dist l v k)
def Right (l : List Tx.Ins) (v : List Int) : Prop := Wide l v ∧ ∀ k, k < l.length → far l v k = false
def Le (v u : List Int) : Prop := ∀ k, wd v k ≤ wd u k

theorem pl_bd {l : List Tx.Ins} {v : List Int} (h : ∀ k, wd v k = 0 ∨ wd v k = 1) : ∀ k, 0 ≤ pl l v k ∧ pl l v k ≤ 6 * k := by
  intro k
  induction k with
  | zero => simp [pl]
  | succ k ih =>
    have := bytes_bd (ins l k).1 (ins l k).2.1
    have := h k
    simp only [pl, sz]
    omega
theorem Wide.bit {l : List Tx.Ins} {v : List Int} (h : Wide l v) (k : Nat) : wd v k = 0 ∨ wd v k = 1 := by
  rcases h.2 k with e | e
  · exact Or.inl e
  · exact Or.inr e.1
/-- From one place to a later one: at least nothing, and with more wide ones no less. -/
theorem span {l : List Tx.Ins} {v u : List Int} (hv : ∀ k, wd v k = 0 ∨ wd v k = 1) (h : Le v u) (a : Nat) : ∀ n, 0 ≤ pl l v (a + n) - pl l v a ∧ pl l v (a + n) - pl l v a ≤ pl l u (a + n) - pl l u a := by
  intro n
  induction n with
  | zero => simp
  | succ n ih =>
    have h1 := bytes_bd (ins l (a + n)).1 (ins l (a + n)).2.1
    have h2 := hv (a + n)
    have h3 := h (a + n)
    rw [← Nat.add_assoc]
    simp only [pl, sz]
    omega
theorem off_mono {l : List Tx.Ins} {v u : List Int} (hv : ∀ k, wd v k = 0 ∨ wd v k = 1) (h : Le v u) (k : Nat) (ho : offB (dist l v k) = true) : offB (dist l u k) = true := by
  unfold offB dist at *
  simp only [Bool.or_eq_true, decide_eq_true_eq] at *
  by_cases hk : k ≤ (ins l k).2.1.toNat
  · have := span (l := l) hv h k ((ins l k).2.1.toNat - k)
    rw [show k + ((ins l k).2.1.toNat - k) = (ins l k).2.1.toNat by omega] at this
    omega
  · have := span (l := l) hv h (ins l k).2.1.toNat (k - (ins l k).2.1.toNat)
    rw [show (ins l k).2.1.toNat + (k - (ins l k).2.1.toNat) = k by omega] at this
    omega
/-- What is too far in a layout is wide in each right one that has all its wide ones. -/
theorem forced {l : List Tx.Ins} {v u : List Int} (hv : ∀ k, wd v k = 0 ∨ wd v k = 1) (h : Le v u) (hu : Right l u) {k : Nat} (hk : k < l.length) (hf : far l v k = true) : wd u k = 1 := by
  rcases hu.1.2 k with e | e
  · exfalso
    have h1 := hu.2 k hk
    unfold far at h1 hf
    simp only [Bool.and_eq_true, decide_eq_true_eq] at hf
    have h2 := off_mono hv h k hf.2
    rw [hf.1.1, h2, e] at h1
    simp at h1
  · exact e.1

/-- All wide ones of the layout are wide in each right one. -/
def Below1 (l : List Tx.Ins) (v : List Int) : Prop := ∀ u, Right l u → Le v u
def Least (l : List Tx.Ins) (v : List Int) : Prop := Right l v ∧ Below1 l v

theorem wd_set (v : List Int) (k j : Nat) (x : Int) (hk : k < v.length) : wd (v.set k x) j = if j = k then x else wd v j := by
  unfold wd
  rw [List.getElem?_set]
  by_cases e : k = j
  · subst e; simp [hk]
  · simp [e, Ne.symm e]
theorem wide_set {l : List Tx.Ins} {v : List Int} (h : Wide l v) {k : Nat} (hk : k < l.length) (hj : jumpB (ins l k).1 = true) : Wide l (v.set k 1) := by
  refine ⟨by rw [List.length_set]; exact h.1, fun j => ?_⟩
  rw [wd_set _ _ _ _ (by rw [h.1]; exact hk)]
  split
  · rename_i e; subst e; exact Or.inr ⟨rfl, hj⟩
  · exact h.2 j
theorem le_set {l : List Tx.Ins} {v : List Int} (h : Wide l v) {k : Nat} (hk : k < l.length) : Le v (v.set k 1) := by
  intro j
  rw [wd_set _ _ _ _ (by rw [h.1]; exact hk)]
  split
  · rename_i e; subst e; rcases h.bit j with e | e <;> omega
  · exact Int.le_refl _
theorem Le.trans {a b c : List Int} (h : Le a b) (k : Le b c) : Le a c := fun j => Int.le_trans (h j) (k j)
theorem Le.refl (a : List Int) : Le a a := fun _ => Int.le_refl _
/-- One more wide one that an earlier layout of the run made wide. -/
theorem below_set {l : List Tx.Ins} {v0 v : List Int} (h0 : Wide l v0) (hv : Wide l v) (hle : Le v0 v) (hb : Below1 l v) {k : Nat} (hk : k < l.length) (hf : far l v0 k = true) : Below1 l (v.set k 1) := by
  intro u hu j
  rw [wd_set _ _ _ _ (by rw [hv.1]; exact hk)]
  split
  · rename_i e
    subst e
    rw [forced h0.bit (hle.trans (hb u hu)) hu hk hf]
    exact Int.le_refl _
  · exact hb u hu j
theorem zeros_wd (n k : Nat) : wd (List.replicate n (0 : Int)) k = 0 := by
  unfold wd
  rw [List.getElem?_replicate]
  split <;> rfl
theorem zeros_wide (l : List Tx.Ins) : Wide l (List.replicate l.length 0) := ⟨by simp, fun k => Or.inl (zeros_wd _ _)⟩
theorem zeros_below (l : List Tx.Ins) : Below1 l (List.replicate l.length 0) := by
  intro u hu k
  rw [zeros_wd]
  rcases hu.1.bit k with e | e <;> omega
theorem wd_ext {v u : List Int} (hl : v.length = u.length) (h : ∀ k, wd v k = wd u k) : v = u := by
  apply List.ext_getElem hl
  intro k h1 h2
  have := h k
  unfold wd at this
  rw [List.getElem?_eq_getElem h1, List.getElem?_eq_getElem h2] at this
  simpa using this
theorem least_one {l : List Tx.Ins} {v u : List Int} (hv : Least l v) (hu : Least l u) : v = u :=
  wd_ext (hv.1.1.1.trans hu.1.1.1.symm) fun k => Int.le_antisymm (hv.2 u hu.1 k) (hu.2 v hv.1 k)

/-- How many are short still. -/
def shorts (v : List Int) : Nat := v.count 0
theorem shorts_set {v : List Int} {k : Nat} (hk : k < v.length) (h : wd v k = 0) : shorts (v.set k 1) < shorts v := by
  have e : v[k] = 0 := by
    unfold wd at h
    rw [List.getElem?_eq_getElem hk] at h
    simpa using h
  unfold shorts
  rw [List.count_set hk, e]
  have : 0 < v.count 0 := List.count_pos_iff.2 (e ▸ List.getElem_mem hk)
  simp
  omega
theorem far_wd {l : List Tx.Ins} {v : List Int} {k : Nat} (h : far l v k = true) : wd v k = 0 ∧ jumpB (ins l k).1 = true := by
  unfold far at h
  simp only [Bool.and_eq_true, decide_eq_true_eq] at h
  exact ⟨h.1.2, h.1.1⟩

/-- The layout of the code: the first that is too far made wide, so many times. -/
def run (l : List Tx.Ins) : Nat → List Int → List Int
  | 0, v => v
  | n + 1, v => match (List.range l.length).find? (far l v) with
    | some k => run l n (v.set k 1)
    | none => v
def layF (l : List Tx.Ins) : List Int := run l l.length (List.replicate l.length 0)
theorem run_least (l : List Tx.Ins) : ∀ (n : Nat) (v : List Int), Wide l v → Below1 l v → shorts v ≤ n → Least l (run l n v)
  | 0, v, hw, hb, hs => by
    refine ⟨⟨hw, fun k hk => ?_⟩, hb⟩
    cases hf : far l v k
    · exact hf
    · have hk' : k < v.length := by rw [hw.1]; exact hk
      have := shorts_set hk' (far_wd hf).1
      omega
  | n + 1, v, hw, hb, hs => by
    unfold run
    split
    · rename_i k hk
      have hf := List.find?_some hk
      have hm := List.mem_of_find?_eq_some hk
      rw [List.mem_range] at hm
      refine run_least l n _ (wide_set hw hm (far_wd hf).2) (below_set hw hw (Le.refl _) hb hm hf) ?_
      have := shorts_set (k := k) (by rw [hw.1]; exact hm) (far_wd hf).1
      omega
    · rename_i hn
      refine ⟨⟨hw, fun k hk => ?_⟩, hb⟩
      have := List.find?_eq_none.1 hn k (List.mem_range.2 hk)
      simpa using this
theorem least_lay (l : List Tx.Ins) : Least l (layF l) :=
  run_least l _ _ (zeros_wide l) (zeros_below l) (by simp [shorts])
theorem lay_of {l : List Tx.Ins} {v : List Int} (h : Least l v) : v = layF l := least_one h (least_lay l)
theorem lay_len (l : List Tx.Ins) : (layF l).length = l.length := (least_lay l).1.1.1

/-- Whether a row of numbers is a layout of the code. -/
def wideB (l : List Tx.Ins) (v : List Int) : Bool := decide (v.length = l.length) && (List.range v.length).all fun k => decide (wd v k = 0) || (decide (wd v k = 1) && jumpB (ins l k).1)
theorem wide_iff (l : List Tx.Ins) (v : List Int) : wideB l v = true ↔ Wide l v := by
  unfold wideB Wide
  simp only [Bool.and_eq_true, decide_eq_true_eq, List.all_eq_true, List.mem_range, Bool.or_eq_true]
  constructor
  · rintro ⟨h, k⟩
    refine ⟨h, fun j => ?_⟩
    by_cases hj : j < v.length
    · exact k j hj
    · left; unfold wd; rw [List.getElem?_eq_none (by omega)]; rfl
  · rintro ⟨h, k⟩
    exact ⟨h, fun j _ => k j⟩
def rightB (l : List Tx.Ins) (v : List Int) : Bool := wideB l v && (List.range l.length).all fun k => !(far l v k)
theorem right_iff (l : List Tx.Ins) (v : List Int) : rightB l v = true ↔ Right l v := by
  unfold rightB Right
  simp only [Bool.and_eq_true, wide_iff, List.all_eq_true, List.mem_range, Bool.not_eq_true']
end Lay
end Go.Proofs.YtinanjjhkddikaaGreat

/- Programs as plain data, and how they lie in memory. -/
namespace Go.Proofs.YtinanjjhkddikaaGreat
namespace Pg
open Go.ChangeShapes Go.WideShapes Go.ChangeAt Go.RowKit St

structure Meth where
  name : Int
  args : List Int
  gives : Int
  code : List Tx.Ins
structure Cls where
  super : Int
  fields : List Int
  meths : List Meth
abbrev Prg := List Cls

/-- Nothing from block B on has turned. -/
structure Keep (B : Nat) (u w : World) : Prop where
  size : u.heap.size ≤ w.heap.size
  block : ∀ k, B ≤ k → k < u.heap.size → w.heap[k]? = u.heap[k]?
theorem Keep.of {B : Nat} {u w : World} (h : Below u.heap.size u w) : Keep B u w := ⟨h.size, fun k _ hk => h.block k hk⟩
theorem Keep.refl (B : Nat) (u : World) : Keep B u u := ⟨Nat.le_refl _, fun _ _ _ => rfl⟩
theorem Keep.trans {B : Nat} {u v w : World} (h : Keep B u v) (k : Keep B v w) : Keep B u w := ⟨Nat.le_trans h.size k.size, fun i hi hl => (k.block i hi (Nat.lt_of_lt_of_le hl h.size)).trans (h.block i hi hl)⟩
theorem Keep.mono {B B' : Nat} {u w : World} (h : Keep B u w) (hB : B ≤ B') : Keep B' u w := ⟨h.size, fun k hk hl => h.block k (Nat.le_trans hB hk) hl⟩
theorem Keep.cell {B : Nat} {u w : World} (h : Keep B u w) {p : Addr} (hp : B ≤ p.block) (hl : p.block < u.heap.size) : w.cell? p = u.cell? p := World.cell?_of_block (w := u) (h.block _ hp hl)
theorem Keep.frozen {B : Nat} {u w : World} (h : Keep B u w) {p : Addr} (hp : B ≤ p.block) (hl : p.block < u.heap.size) : w.frozen? p = u.frozen? p := World.frozen?_of_block (w := u) (h.block _ hp hl)
theorem Keep.set {B : Nat} (w : World) {p : Addr} (hp : p.block < B) (v : Value) : Keep B w (w.setCell p v) := by
  have hb := (Below.refl 0 w).setCell (p := p) (Nat.zero_le _) v
  exact ⟨hb.size, fun k hk _ => Below.heap_setCell w p v k (by omega)⟩

/-- A slice whose elements lie where it points, each sz cells, not below block B; where f says so, they may be written. -/
def Arr {α : Type} (E : World → Nat → Nat → α → Prop) (sz : Nat) (f : Bool) (B : Nat) (w : World) (v : Value) (l : List α) : Prop :=
  ∃ a cap, v = .slice a l.length cap ∧ (f = true → a = none → cap = 0) ∧ (0 < l.length → ∃ b o, a = some ⟨b, o, none⟩ ∧ B ≤ b ∧ (b < w.heap.size ∧ (f = true → ∀ j, j < l.length * sz → w.frozen? ⟨b, o + j, none⟩ = false)) ∧ ∀ j x, l[j]? = some x → E w b (o + j * sz) x)
/-- What lasts where nothing from B on is turned. -/
def Lasts {α : Type} (B : Nat) (E : World → Nat → Nat → α → Prop) : Prop := ∀ u w b o x, Keep B u w → B ≤ b → E u b o x → E w b o x
theorem Arr.on {α : Type} {E : World → Nat → Nat → α → Prop} {sz B : Nat} {f : Bool} (hE : Lasts B E) {u w : World} {v : Value} {l : List α} (h : Arr E sz f B u v l) (hb : Keep B u w) : Arr E sz f B w v l := by
  obtain ⟨a, cap, hv, hz, h⟩ := h
  refine ⟨a, cap, hv, hz, fun h0 => ?_⟩
  obtain ⟨b, o, ha, hB, ⟨hl, hf⟩, hx⟩ := h h0
  exact ⟨b, o, ha, hB, ⟨Nat.lt_of_lt_of_le hl hb.size, fun e j hj => (hb.frozen (p := ⟨b, o + j, none⟩) hB hl).trans (hf e j hj)⟩, fun j x hj => hE u w _ _ _ hb hB (hx j x hj)⟩
theorem Arr.get {α : Type} {E : World → Nat → Nat → α → Prop} {sz B : Nat} {f : Bool} {w : World} {a : Option Addr} {n cap : Nat} {l : List α} (h : Arr E sz f B w (.slice a n cap) l) {k : Nat} (hk : k < l.length) : ∃ b o, a = some ⟨b, o, none⟩ ∧ B ≤ b ∧ E w b (o + k * sz) l[k] := by
  obtain ⟨a', cap', hv, _, h⟩ := h
  injection hv with e1 e2 e3
  subst e1
  obtain ⟨b, o, ha, hB, _, hx⟩ := h (by omega)
  exact ⟨b, o, ha, hB, hx k _ (List.getElem?_eq_getElem hk)⟩
/-- The same, and that the element may be written. -/
theorem Arr.getW {α : Type} {E : World → Nat → Nat → α → Prop} {sz B : Nat} {w : World} {a : Option Addr} {n cap : Nat} {l : List α} (h : Arr E sz true B w (.slice a n cap) l) {k : Nat} (hk : k < l.length) : ∃ b o, a = some ⟨b, o, none⟩ ∧ B ≤ b ∧ b < w.heap.size ∧ (∀ i, i < sz → w.frozen? ⟨b, o + k * sz + i, none⟩ = false) ∧ E w b (o + k * sz) l[k] := by
  obtain ⟨a', cap', hv, _, h⟩ := h
  injection hv with e1 e2 e3
  subst e1
  obtain ⟨b, o, ha, hB, ⟨hl, hf⟩, hx⟩ := h (by omega)
  refine ⟨b, o, ha, hB, hl, fun i hi => ?_, hx k _ (List.getElem?_eq_getElem hk)⟩
  have h1 : k * sz + i < l.length * sz := by
    have : (k + 1) * sz ≤ l.length * sz := Nat.mul_le_mul_right _ hk
    rw [Nat.add_mul, Nat.one_mul] at this
    omega
  have := hf rfl (k * sz + i) h1
  rw [← Nat.add_assoc] at this
  exact this
theorem Arr.form {α : Type} {E : World → Nat → Nat → α → Prop} {sz B : Nat} {f : Bool} {w : World} {v : Value} {l : List α} (h : Arr E sz f B w v l) : ∃ a cap, v = .slice a l.length cap := by
  obtain ⟨a, cap, hv, _⟩ := h
  exact ⟨a, cap, hv⟩
theorem Arr.nil {α : Type} {E : World → Nat → Nat → α → Prop} {sz B : Nat} {w : World} {n cap : Nat} {l : List α} (h : Arr E sz true B w (.slice none n cap) l) : l = [] ∧ n = 0 ∧ cap = 0 := by
  obtain ⟨a', cap', hv, hz, h⟩ := h
  injection hv with e1 e2 e3
  subst e1 e3
  have hl : l.length = 0 := by
    rcases Nat.eq_zero_or_pos l.length with h0 | h0
    · exact h0
    · obtain ⟨b, o, ha, _⟩ := h h0
      simp at ha
  exact ⟨List.eq_nil_of_length_eq_zero hl, by omega, hz rfl rfl⟩
theorem Arr.weak {α : Type} {E F : World → Nat → Nat → α → Prop} {sz B B' : Nat} {f : Bool} {w : World} {v : Value} {l : List α} (h : Arr E sz f B w v l) (hB : B' ≤ B) (hEF : ∀ b o x, E w b o x → F w b o x) : Arr F sz f B' w v l := by
  obtain ⟨a, cap, hv, hz, h⟩ := h
  refine ⟨a, cap, hv, hz, fun h0 => ?_⟩
  obtain ⟨b, o, ha, hb, hz, hx⟩ := h h0
  exact ⟨b, o, ha, Nat.le_trans hB hb, hz, fun j x hj => hEF _ _ _ (hx j x hj)⟩

def IntAt (w : World) (b o : Nat) (x : Int) : Prop := w.cell? ⟨b, o, none⟩ = some (.int .i64 x)
theorem IntAt.lasts (B : Nat) : Lasts B IntAt := fun _ _ _ _ _ hb hB h => (hb.cell hB (cell_lt h)).trans h
def InsAt (w : World) (b o : Nat) (x : Tx.Ins) : Prop :=
  w.cell? ⟨b, o, none⟩ = some (.int .i64 x.1) ∧ w.cell? ⟨b, o + 1, none⟩ = some (.int .i64 x.2.1) ∧ w.cell? ⟨b, o + 2, none⟩ = some (.int .i64 x.2.2)
theorem InsAt.lasts (B : Nat) : Lasts B InsAt := by
  rintro u w b o x hb hB ⟨h0, h1, h2⟩
  have l : b < u.heap.size := cell_lt h0
  exact ⟨(hb.cell hB l).trans h0, (hb.cell hB l).trans h1, (hb.cell hB l).trans h2⟩
/-- A slice of numbers, wherever it lies. -/
abbrev SI (f : Bool) (B : Nat) := Arr IntAt 1 f B
/-- A slice of steps, wherever it lies. -/
abbrev SC (B : Nat) := Arr InsAt 3 false B
theorem SI.on {f : Bool} {B : Nat} {u w : World} {v : Value} {l : List Int} (h : SI f B u v l) (hb : Keep B u w) : SI f B w v l := Arr.on (IntAt.lasts B) h hb
theorem SC.on {B : Nat} {u w : World} {v : Value} {l : List Tx.Ins} (h : SC B u v l) (hb : Keep B u w) : SC B w v l := Arr.on (InsAt.lasts B) h hb
theorem SI.weak {f : Bool} {B B' : Nat} {w : World} {v : Value} {l : List Int} (h : SI f B w v l) (hB : B' ≤ B) : SI f B' w v l := Arr.weak h hB fun _ _ _ h => h
/-- A slice of steps at the front of a block, which may be written. -/
def CS (B : Nat) (w : World) (v : Value) (l : List Tx.Ins) : Prop := ∃ g cap, v = .slice (some ⟨g, 0, none⟩) l.length cap ∧ B ≤ g ∧ g < w.heap.size ∧ Row w g 0 l ∧ Room w g (l.length * 3)
theorem CS.on {B : Nat} {u w : World} {v : Value} {l : List Tx.Ins} (h : CS B u v l) (hb : Keep B u w) : CS B w v l := by
  obtain ⟨g, cap, hv, h1, h2, h3, h4⟩ := h
  refine ⟨g, cap, hv, h1, Nat.lt_of_lt_of_le h2 hb.size, fun j x hj => ?_, fun i hi => ?_⟩
  · obtain ⟨c0, c1, c2⟩ := h3 j x hj
    exact ⟨(hb.cell h1 h2).trans c0, (hb.cell h1 h2).trans c1, (hb.cell h1 h2).trans c2⟩
  · obtain ⟨⟨x, hx⟩, hf⟩ := h4 i hi
    exact ⟨⟨x, (hb.cell h1 h2).trans hx⟩, (hb.frozen h1 h2).trans hf⟩
/-- How slices may lie: in whatever way that lasts. -/
structure Way where
  fr : Bool
  K : Nat → World → Value → List Tx.Ins → Prop
  on : ∀ {B u w v l}, K B u v l → Keep B u w → K B w v l
  weak : ∀ {B B' w v l}, K B w v l → B' ≤ B → K B' w v l
  form : ∀ {B w v l}, K B w v l → ∃ a cap, v = .slice a l.length cap
def wide : Way := ⟨false, SC, fun h hb => SC.on h hb, fun h hB => Arr.weak h hB fun _ _ _ h => h, fun h => h.form⟩
def front : Way := ⟨true, CS, fun h hb => h.on hb, fun ⟨g, cap, h1, h2, h3⟩ hB => ⟨g, cap, h1, Nat.le_trans hB h2, h3⟩, fun ⟨_, cap, h, _⟩ => ⟨_, cap, h⟩⟩

/-- The four cells of a method, and what they mean. -/
def MV (K : Way) (B : Nat) (w : World) (va vc : Value) (m : Meth) : Prop := SI K.fr B w va m.args ∧ K.K B w vc m.code
def MAt (K : Way) (B : Nat) (w : World) (b o : Nat) (m : Meth) : Prop :=
  ∃ va vc, w.cell? ⟨b, o, none⟩ = some (.int .i64 m.name) ∧ w.cell? ⟨b, o + 1, none⟩ = some va ∧ w.cell? ⟨b, o + 2, none⟩ = some (.int .i64 m.gives) ∧ w.cell? ⟨b, o + 3, none⟩ = some vc ∧ MV K B w va vc m
theorem MV.on {K : Way} {B : Nat} {u w : World} {va vc : Value} {m : Meth} (h : MV K B u va vc m) (hb : Keep B u w) : MV K B w va vc m := ⟨SI.on h.1 hb, K.on h.2 hb⟩
theorem MV.weak {K : Way} {B B' : Nat} {w : World} {va vc : Value} {m : Meth} (h : MV K B w va vc m) (hB : B' ≤ B) : MV K B' w va vc m := ⟨SI.weak h.1 hB, K.weak h.2 hB⟩
theorem MAt.lasts (K : Way) (B : Nat) : Lasts B (MAt K B) := by
  rintro u w b o m hb hB ⟨va, vc, h0, h1, h2, h3, h4⟩
  have l : b < u.heap.size := cell_lt h0
  exact ⟨va, vc, (hb.cell hB l).trans h0, (hb.cell hB l).trans h1, (hb.cell hB l).trans h2, (hb.cell hB l).trans h3, h4.on hb⟩
abbrev SM (K : Way) (B : Nat) := Arr (MAt K B) 4 K.fr B
theorem SM.on {K : Way} {B : Nat} {u w : World} {v : Value} {l : List Meth} (h : SM K B u v l) (hb : Keep B u w) : SM K B w v l := Arr.on (MAt.lasts K B) h hb
theorem SM.weak {K : Way} {B B' : Nat} {w : World} {v : Value} {l : List Meth} (h : SM K B w v l) (hB : B' ≤ B) : SM K B' w v l :=
  Arr.weak h hB fun _ _ _ ⟨va, vc, h0, h1, h2, h3, h4⟩ => ⟨va, vc, h0, h1, h2, h3, h4.weak hB⟩
def CV (K : Way) (B : Nat) (w : World) (vf vm : Value) (c : Cls) : Prop := SI K.fr B w vf c.fields ∧ SM K B w vm c.meths
def CAt (K : Way) (B : Nat) (w : World) (b o : Nat) (c : Cls) : Prop :=
  ∃ vf vm, w.cell? ⟨b, o, none⟩ = some (.int .i64 c.super) ∧ w.cell? ⟨b, o + 1, none⟩ = some vf ∧ w.cell? ⟨b, o + 2, none⟩ = some vm ∧ CV K B w vf vm c
theorem CV.on {K : Way} {B : Nat} {u w : World} {vf vm : Value} {c : Cls} (h : CV K B u vf vm c) (hb : Keep B u w) : CV K B w vf vm c := ⟨SI.on h.1 hb, SM.on h.2 hb⟩
theorem CV.weak {K : Way} {B B' : Nat} {w : World} {vf vm : Value} {c : Cls} (h : CV K B w vf vm c) (hB : B' ≤ B) : CV K B' w vf vm c := ⟨SI.weak h.1 hB, SM.weak h.2 hB⟩
theorem CAt.lasts (K : Way) (B : Nat) : Lasts B (CAt K B) := by
  rintro u w b o m hb hB ⟨vf, vm, h0, h1, h2, h4⟩
  have l : b < u.heap.size := cell_lt h0
  exact ⟨vf, vm, (hb.cell hB l).trans h0, (hb.cell hB l).trans h1, (hb.cell hB l).trans h2, h4.on hb⟩
abbrev SK (K : Way) (B : Nat) := Arr (CAt K B) 3 K.fr B
theorem SK.on {K : Way} {B : Nat} {u w : World} {v : Value} {l : Prg} (h : SK K B u v l) (hb : Keep B u w) : SK K B w v l := Arr.on (CAt.lasts K B) h hb
theorem SK.weak {K : Way} {B B' : Nat} {w : World} {v : Value} {l : Prg} (h : SK K B w v l) (hB : B' ≤ B) : SK K B' w v l :=
  Arr.weak h hB fun _ _ _ ⟨va, vc, h0, h1, h2, h4⟩ => ⟨va, vc, h0, h1, h2, h4.weak hB⟩
theorem SI.row {f : Bool} {w : World} {B g cap : Nat} {l : List Int} (hB : B ≤ g) (hg : g < w.heap.size) (h : IRow w g 0 l) (hr : Room w g l.length) : SI f B w (.slice (some ⟨g, 0, none⟩) l.length cap) l :=
  ⟨_, cap, rfl, fun _ h => by simp at h, fun _ => ⟨g, 0, rfl, hB, ⟨hg, fun _ j hj => by rw [Nat.mul_one] at hj; rw [Nat.zero_add]; exact (hr j hj).2⟩, fun j x hj => by rw [Nat.mul_one]; exact h j x hj⟩⟩

/-- How much there is in a program. -/
def szM (m : Meth) : Nat := m.args.length + m.code.length
def sumN (l : List Nat) : Nat := l.foldr (· + ·) 0
def szMs (ms : List Meth) : Nat := ms.length + sumN (ms.map szM)
def szC (c : Cls) : Nat := c.fields.length + szMs c.meths
def szP (p : Prg) : Nat := p.length + sumN (p.map szC)
theorem sumN_le {l : List Nat} {n : Nat} (h : n ∈ l) : n ≤ sumN l := by
  induction l with
  | nil => simp at h
  | cons x l ih =>
    simp only [sumN, List.foldr_cons]
    rcases List.mem_cons.1 h with rfl | h
    · omega
    · have := ih h; simp only [sumN] at this; omega
theorem sumN_take_succ {α : Type} (f : α → Nat) (l : List α) (k : Nat) (hk : k < l.length) : sumN ((l.take (k + 1)).map f) = sumN ((l.take k).map f) + f l[k] := by
  rw [List.take_succ_eq_append_getElem hk, List.map_append]
  generalize (l.take k).map f = a
  induction a with
  | nil => simp [sumN]
  | cons x a ih => simp only [sumN, List.cons_append, List.foldr_cons] at ih ⊢; omega
theorem sumN_take_le {α : Type} (f : α → Nat) (l : List α) (k : Nat) : sumN ((l.take k).map f) ≤ sumN (l.map f) := by
  induction l generalizing k with
  | nil => simp
  | cons x l ih =>
    cases k with
    | zero => simp [sumN]
    | succ k => have := ih k; simp only [sumN, List.take_succ_cons, List.map_cons, List.foldr_cons] at this ⊢; omega
theorem szM_le {ms : List Meth} {m : Meth} (h : m ∈ ms) : szM m ≤ szMs ms := by
  have := sumN_le (List.mem_map_of_mem (f := szM) h); unfold szMs; omega
theorem szC_le {p : Prg} {c : Cls} (h : c ∈ p) : szC c ≤ szP p := by
  have := sumN_le (List.mem_map_of_mem (f := szC) h); unfold szP; omega
end Pg
end Go.Proofs.YtinanjjhkddikaaGreat

/- Lists that rise, and what may come next, plainly. -/
namespace Go.Proofs.YtinanjjhkddikaaGreat
namespace Pg
open Go.ChangeShapes Go.WideShapes Go.ChangeAt Go.RowKit St

/-- A number into a list that rises, once. -/
def putL : List Int → Int → List Int
  | [], n => [n]
  | x :: l, n => if x < n then x :: putL l n else if x = n then x :: l else n :: x :: l
abbrev Rise (l : List Int) : Prop := l.Pairwise (· < ·)
theorem rise_ext : ∀ {l r : List Int}, Rise l → Rise r → (∀ x, x ∈ l ↔ x ∈ r) → l = r
  | [], [], _, _, _ => rfl
  | [], y :: r, _, _, h => absurd ((h y).2 List.mem_cons_self) (by simp)
  | x :: l, [], _, _, h => absurd ((h x).1 List.mem_cons_self) (by simp)
  | x :: l, y :: r, h1, h2, h => by
    obtain ⟨a1, b1⟩ := List.pairwise_cons.1 h1
    obtain ⟨a2, b2⟩ := List.pairwise_cons.1 h2
    have hxy : x = y := by
      rcases List.mem_cons.1 ((h x).1 List.mem_cons_self) with e | e
      · exact e
      · rcases List.mem_cons.1 ((h y).2 List.mem_cons_self) with e' | e'
        · exact e'.symm
        · have := a2 x e; have := a1 y e'; omega
    subst hxy
    have : l = r := rise_ext b1 b2 (fun z => ⟨fun hz => by
      rcases List.mem_cons.1 ((h z).1 (List.mem_cons_of_mem _ hz)) with e | e
      · have := a1 z hz; omega
      · exact e, fun hz => by
      rcases List.mem_cons.1 ((h z).2 (List.mem_cons_of_mem _ hz)) with e | e
      · have := a2 z hz; omega
      · exact e⟩)
    rw [this]
theorem putL_mem (l : List Int) (n x : Int) : x ∈ putL l n ↔ x = n ∨ x ∈ l := by
  induction l with
  | nil => simp [putL]
  | cons y l ih =>
    simp only [putL]
    split
    · rw [List.mem_cons, ih, List.mem_cons]; constructor <;> (intro h; rcases h with h | h | h <;> simp [h])
    · split
      · rename_i h; subst h; simp
      · simp
theorem putL_rise {l : List Int} (h : Rise l) (n : Int) : Rise (putL l n) := by
  induction l with
  | nil => simp [putL]
  | cons y l ih =>
    obtain ⟨a, b⟩ := List.pairwise_cons.1 h
    simp only [putL]
    split
    · rename_i hy
      refine List.pairwise_cons.2 ⟨fun z hz => ?_, ih b⟩
      rcases (putL_mem l n z).1 hz with rfl | hz
      · exact hy
      · exact a z hz
    · split
      · exact h
      · rename_i h1 h2
        refine List.pairwise_cons.2 ⟨fun z hz => ?_, h⟩
        rcases List.mem_cons.1 hz with rfl | hz
        · omega
        · have := a z hz; omega
theorem putL_len (l : List Int) (n : Int) : (putL l n).length ≤ l.length + 1 := by
  induction l with
  | nil => simp [putL]
  | cons y l ih =>
    simp only [putL]
    split
    · simp; omega
    · split <;> simp
/-- Where the number is, or would be. -/
theorem putL_at {l : List Int} {k : Nat} {n : Int} (h1 : ∀ x ∈ l.take k, x < n) (hk : k ≤ l.length) : (∀ x, l[k]? = some x → x = n → putL l n = l) ∧ ((∀ x, l[k]? = some x → n < x) → putL l n = l.take k ++ n :: l.drop k) := by
  induction l generalizing k with
  | nil =>
    have : k = 0 := by simpa using hk
    subst this
    simp [putL]
  | cons y l ih =>
    cases k with
    | zero =>
      refine ⟨fun x hx e => ?_, fun h => ?_⟩
      · simp at hx; subst hx; subst e; simp [putL]
      · have := h y (by simp)
        simp only [putL]
        rw [if_neg (by omega), if_neg (by omega)]
        simp
    | succ k =>
      have hy : y < n := h1 y (by simp)
      obtain ⟨a, b⟩ := ih (k := k) (fun x hx => h1 x (by rw [List.take_succ_cons]; exact List.mem_cons_of_mem _ hx)) (by simpa using hk)
      refine ⟨fun x hx e => ?_, fun h => ?_⟩
      · simp only [putL, hy, if_true]; rw [a x (by simpa using hx) e]
      · simp only [putL, hy, if_true]; rw [b (fun x hx => h x (by simpa using hx))]; simp
theorem foldl_put (m : List Int) : ∀ (l : List Int), Rise l → Rise (m.foldl putL l) ∧ ∀ x, x ∈ m.foldl putL l ↔ x ∈ m ∨ x ∈ l := by
  induction m with
  | nil => intro l h; exact ⟨h, fun x => by simp⟩
  | cons y m ih =>
    intro l h
    obtain ⟨a, b⟩ := ih (putL l y) (putL_rise h y)
    refine ⟨a, fun x => ?_⟩
    rw [List.foldl_cons, b x, putL_mem, List.mem_cons]
    constructor
    · rintro (h | h | h)
      · exact .inl (.inr h)
      · exact .inl (.inl h)
      · exact .inr h
    · rintro ((h | h) | h)
      · exact .inr (.inl h)
      · exact .inl h
      · exact .inr (.inr h)
theorem foldl_put_len (m : List Int) : ∀ (l : List Int), (m.foldl putL l).length ≤ m.length + l.length := by
  induction m with
  | nil => intro l; simp
  | cons y m ih => intro l; have := ih (putL l y); have := putL_len l y; simp only [List.foldl_cons, List.length_cons]; omega
/-- Where one may come next, as the program tells it: also behind the last one. -/
def waysF (i : Tx.Ins) (at' : Nat) : List Nat :=
  if i.1 = 20 then [] else if i.1 = 11 then [i.2.1.toNat] else if i.1 = 12 then [i.2.1.toNat, at' + 1] else [at' + 1]
def insF (code : List Tx.Ins) (i : Nat) : Tx.Ins := code.getD i (0, 0, 0)
theorem mem_putL {x n : Int} : ∀ {l : List Int}, x ∈ putL l n ↔ x ∈ l ∨ x = n
  | [] => by simp [putL]
  | y :: l => by
    unfold putL
    split
    · rw [List.mem_cons, mem_putL (l := l), List.mem_cons]
      constructor
      · rintro (h | h | h)
        · exact .inl (.inl h)
        · exact .inl (.inr h)
        · exact .inr h
      · rintro ((h | h) | h)
        · exact .inl h
        · exact .inr (.inl h)
        · exact .inr (.inr h)
    · split
      · rename_i h1 h2
        subst h2
        constructor
        · exact fun h => .inl h
        · rintro (h | h)
          · exact h
          · rw [h]; exact List.mem_cons_self
      · rw [List.mem_cons]
        constructor
        · rintro (h | h)
          · exact .inr h
          · exact .inl h
        · rintro (h | h)
          · exact .inr h
          · exact .inl h
def nextsF (code : List Tx.Ins) (a : Nat) : List Int :=
  let b : List Int := if (insF code a).1 ≠ 11 ∧ (insF code a).1 ≠ 20 ∧ a + 1 < code.length then [(a : Int) + 1] else []
  if (insF code a).1 = 11 ∨ (insF code a).1 = 12 then putL b (insF code a).2.1 else b
def nextsL (op A : Int) (k n : Nat) : List Int :=
  if op = 11 ∨ op = 12 then putL (if op ≠ 11 ∧ op ≠ 20 ∧ k + 1 < n then [(k : Int) + 1] else []) A else (if op ≠ 11 ∧ op ≠ 20 ∧ k + 1 < n then [(k : Int) + 1] else [])
theorem nexts_is (code : List Tx.Ins) (k : Nat) : nextsF code k = nextsL (insF code k).1 (insF code k).2.1 k code.length := rfl
end Pg
end Go.Proofs.YtinanjjhkddikaaGreat
