/- The contract of the other side's numeral. -/
import Derived.Test.YtbachkjhmenhfaaStep1
import Derived.Laws.IdiomStrings
namespace Go.Proofs.Ytbachkjhmenhfaa
namespace St
open Go.ChangeShapes Go.WideShapes Go.ChangeAt Go.RowKit

theorem mk_app (l m : List UInt8) : (⟨l.toArray⟩ : ByteArray) ++ ⟨m.toArray⟩ = ⟨(l ++ m).toArray⟩ := by
  apply ByteArray.ext; simp
theorem mk_size (l : List UInt8) : (⟨l.toArray⟩ : ByteArray).size = l.length := by simp [ByteArray.size]

def Dn (n m : Int) (l : List UInt8) : Prop :=
  -9223372036854775808 ≤ m ∧ m ≤ 9223372036854775807 ∧ ((l = [] ∧ m = n) ∨ (l ≠ [] ∧ (0 ≤ n → 0 ≤ m) ∧ (n < 0 → m ≤ 0) ∧ Lib.decDigits n.natAbs = (if m = 0 then [] else Lib.decDigits m.natAbs) ++ l))

theorem tm_pos (m : Int) (h : 0 ≤ m) : m.tmod 10 = m % 10 ∧ m.tdiv 10 = m / 10 :=
  ⟨Int.tmod_eq_emod_of_nonneg h, Int.tdiv_eq_ediv_of_nonneg h⟩
theorem tm_neg (m : Int) (h : m ≤ 0) : m.tmod 10 = -((-m) % 10) ∧ m.tdiv 10 = -((-m) / 10) := by
  have e : m = -(-m) := by omega
  refine ⟨?_, ?_⟩
  · conv => lhs; rw [e]
    rw [Int.neg_tmod, Int.tmod_eq_emod_of_nonneg (by omega)]
  · conv => lhs; rw [e]
    rw [Int.neg_tdiv, Int.tdiv_eq_ediv_of_nonneg (by omega)]

def emp : Value → Nat
  | .string s => if s.data.toList = [] then 1 else 0
  | _ => 0

theorem dn_step {n m d : Int} {l : List UInt8} (h : Dn n m l) (hgo : l = [] ∨ m ≠ 0) (hd : d = (m.natAbs % 10 : Nat)) :
    Dn n (m.tdiv 10) (UInt8.ofNat (48 + d).toNat :: l) := by
  obtain ⟨h0, h1, h⟩ := h
  have hq : (m.tdiv 10).natAbs = m.natAbs / 10 ∧ (0 ≤ m → 0 ≤ m.tdiv 10) ∧ (m ≤ 0 → m.tdiv 10 ≤ 0) ∧ -9223372036854775808 ≤ m.tdiv 10 ∧ m.tdiv 10 ≤ 9223372036854775807 := by
    rcases Int.le_total 0 m with hm | hm
    · rw [(tm_pos m hm).2]; omega
    · rw [(tm_neg m hm).2]; omega
  have hdd : (48 + d).toNat = 48 + m.natAbs % 10 := by omega
  have key : Lib.decDigits m.natAbs = (if m.tdiv 10 = 0 then [] else Lib.decDigits (m.tdiv 10).natAbs) ++ [UInt8.ofNat (48 + d).toNat] := by
    rw [hdd, hq.1]
    by_cases hs : m.natAbs < 10
    · rw [if_pos (by omega), Tx.dec_small hs, Nat.mod_eq_of_lt hs]; rfl
    · rw [if_neg (by omega), Tx.dec_big hs]
  refine ⟨hq.2.2.2.1, hq.2.2.2.2, Or.inr ⟨by simp, ?_, ?_, ?_⟩⟩
  · intro hn
    rcases h with ⟨_, rfl⟩ | ⟨_, h2, _, _⟩
    · exact hq.2.1 hn
    · exact hq.2.1 (h2 hn)
  · intro hn
    rcases h with ⟨_, rfl⟩ | ⟨_, _, h3, _⟩
    · exact hq.2.2.1 (by omega)
    · exact hq.2.2.1 (h3 hn)
  · rcases h with ⟨rfl, rfl⟩ | ⟨hl, _, _, h4⟩
    · rw [key]
    · have hm : m ≠ 0 := by exact hgo.resolve_left hl
      rw [h4, if_neg hm, key]; simp

theorem dn_end {n : Int} {l : List UInt8} (h : Dn n 0 l) (hl : l ≠ []) : Lib.decDigits n.natAbs = l := by
  obtain ⟨_, _, h | h⟩ := h
  · exact absurd h.1 hl
  · rw [h.2.2.2]; rfl

theorem conv_one (wr : World) (c : Int) (t : TypeId) (h0 : 0 ≤ c) (h1 : c ≤ 255) :
    (convert 22 9 (.slice (some ⟨wr.heap.size, 0, none⟩) 1 1)).run Try.prog (wr.alloc (.cells #[.int .u8 c] t)) = .ok (.string ⟨#[UInt8.ofNat c.toNat]⟩) (wr.alloc (.cells #[.int .u8 c] t)) := by
  have hc : ∀ j (hj : j < [UInt8.ofNat c.toNat].length), (wr.alloc (.cells #[.int .u8 c] t)).cell? ((⟨wr.heap.size, 0, none⟩ : Addr).add j) = some (.int .u8 ([UInt8.ofNat c.toNat][j].toNat : Int)) := by
    intro j hj
    have hj0 : j = 0 := by simpa using hj
    subst hj0
    simp [Addr.add]; omega
  exact run_convert_bytes_back (P := Try.prog) (wr.alloc (.cells #[.int .u8 c] t)) 22 9 5 ⟨wr.heap.size, 0, none⟩ 1 [UInt8.ofNat c.toNat] Try.underlying22 Try.underlying5 Try.underlying9 hc

theorem dn_len {n m : Int} {l : List UInt8} (h0 : -9223372036854775808 ≤ n) (h1 : n ≤ 9223372036854775807) (h : Dn n m l) : l.length ≤ 19 := by
  obtain ⟨_, _, h | h⟩ := h
  · rw [h.1]; simp
  · have hl := Tx.dec_len n.natAbs 18 (by omega)
    rw [h.2.2.2, List.length_append] at hl; omega

theorem cons_str (c : UInt8) (s : ByteArray) : ((⟨#[c]⟩ : ByteArray) ++ s).data.toList = c :: s.data.toList := by simp
theorem str_eq {s t : ByteArray} (h : s.data.toList = t.data.toList) : s = t := by
  cases s; cases t; congr; exact Array.toList_inj.1 h
theorem neg_str {n : Int} {s : ByteArray} (hn : n < 0) (h : Lib.decDigits n.natAbs = s.data.toList) : (⟨#[45]⟩ : ByteArray) ++ s = ⟨(Lib.itoa n).toArray⟩ := by
  apply str_eq
  rw [cons_str, ← h]; simp [Lib.itoa, hn]
theorem pos_str {n : Int} {s : ByteArray} (hn : ¬ n < 0) (h : Lib.decDigits n.natAbs = s.data.toList) : s = ⟨(Lib.itoa n).toArray⟩ := by
  apply str_eq
  rw [← h]; simp only [Lib.itoa, if_neg hn]
  have e : n.natAbs = n.toNat := by omega
  rw [e]
theorem emp_cons (c : UInt8) (s : ByteArray) : emp (.string ((⟨#[c]⟩ : ByteArray) ++ s)) = 0 := by
  show (if ((⟨#[c]⟩ : ByteArray) ++ s).data.toList = [] then 1 else 0) = 0
  rw [if_neg (by rw [cons_str]; simp)]
theorem emp_yes {s : ByteArray} (h : s.data.toList = []) : emp (.string s) = 1 := by
  show (if s.data.toList = [] then 1 else 0) = 1
  rw [if_pos h]
theorem emp_no {s : ByteArray} (h : s.data.toList ≠ []) : emp (.string s) = 0 := by
  show (if s.data.toList = [] then 1 else 0) = 0
  rw [if_neg h]
theorem isEmpty_data (s : ByteArray) : s.toList.isEmpty = s.data.toList.isEmpty := by rw [Lib.toList_data]
theorem tmod_abs (m : Int) : (m.tmod 10 < 0 → -m.tmod 10 = ((m.natAbs % 10 : Nat) : Int)) ∧ (¬ m.tmod 10 < 0 → m.tmod 10 = ((m.natAbs % 10 : Nat) : Int)) := by
  rcases Int.le_total 0 m with hm | hm
  · rw [(tm_pos m hm).1]; omega
  · rw [(tm_neg m hm).1]; omega
theorem tdiv_abs (m : Int) : (m.tdiv 10).natAbs = m.natAbs / 10 ∧ -9223372036854775808 ≤ m.tdiv 10 + 9223372036854775808 + m.natAbs ∧ (-9223372036854775808 ≤ m → m ≤ 9223372036854775807 → -9223372036854775808 ≤ m.tdiv 10 ∧ m.tdiv 10 ≤ 9223372036854775807) := by
  rcases Int.le_total 0 m with hm | hm
  · rw [(tm_pos m hm).2]; omega
  · rw [(tm_neg m hm).2]; omega

end St
end Go.Proofs.Ytbachkjhmenhfaa
