/- The contract of the other side's reading of a number. -/
import Derived.Test.YtnlanikjlokboaaGreatDoorRead0
namespace Go.Proofs.YtnlanikjlokboaaGreatDoor
namespace St
open Go.ChangeShapes Go.WideShapes Go.ChangeAt Go.RowKit

theorem fold_snoc (p : List UInt8) (c : UInt8) : Tx.foldN (p ++ [c]) = Tx.foldN p * 10 + (c.toNat - 48) := by simp [Tx.foldN]
theorem fold_lt (p : List UInt8) (h : p.all Tx.isDig = true) : Tx.foldN p < 10 ^ p.length := by
  suffices hh : ∀ (p : List UInt8) (n : Nat), p.all Tx.isDig = true → p.foldl (fun n c => n * 10 + (c.toNat - 48)) n < (n + 1) * 10 ^ p.length by
    have := hh p 0 h; simpa [Tx.foldN] using this
  intro p
  induction p with
  | nil => intro n _; simp
  | cons c p ih =>
    intro n h
    rw [List.all_cons, Bool.and_eq_true] at h
    have hc := h.1
    simp only [Tx.isDig, Bool.and_eq_true, decide_eq_true_eq] at hc
    have := ih (n * 10 + (c.toNat - 48)) h.2
    rw [List.foldl_cons, List.length_cons, Nat.pow_succ]
    refine Nat.lt_of_lt_of_le this ?_
    have h2 : n * 10 + (c.toNat - 48) + 1 ≤ (n + 1) * 10 := by omega
    calc (n * 10 + (c.toNat - 48) + 1) * 10 ^ p.length ≤ ((n + 1) * 10) * 10 ^ p.length := Nat.mul_le_mul_right _ h2
      _ = (n + 1) * (10 ^ p.length * 10) := by rw [Nat.mul_assoc, Nat.mul_comm 10]
theorem pre_snoc (s : ByteArray) (i k : Nat) (hi : i ≤ k) (hk : k < s.size) : (s.data.toList.drop i).take (k + 1 - i) = (s.data.toList.drop i).take (k - i) ++ [s[k]] := by
  have hk' : k < s.data.toList.length := by simpa using hk
  have e : k + 1 - i = (k - i) + 1 := by omega
  rw [e, List.take_succ_eq_append_getElem (by rw [List.length_drop]; omega)]
  congr 1
  rw [List.getElem_drop]
  have e2 : i + (k - i) = k := by omega
  simp only [e2]; rfl

/-- The number, and some word whether it is one; the world stands. -/
def RdPost (x : Int) (w : World) (e : Ending) (w' : World) : Prop := ∃ b : Bool, e = .returned (.tuple #[.int .i64 x, .bool b]) ∧ w = w'
theorem RdPost.mk {x y : Int} {w : World} {b : Bool} (h : x = y) : RdPost x w (.returned (.tuple #[.int .i64 y, .bool b])) w := ⟨b, by rw [h], rfl⟩

def Rd (s : ByteArray) (i k : Nat) (n : Int) : Prop := n = (Tx.foldN ((s.data.toList.drop i).take (k - i)) : Int) ∧ ((s.data.toList.drop i).take (k - i)).all Tx.isDig = true
theorem Rd.bd {s : ByteArray} {i k : Nat} {n : Int} (h : Rd s i k n) (hk : k - i ≤ 10) : 0 ≤ n ∧ n < 10000000000 := by
  have h1 := fold_lt _ h.2
  have hl : ((s.data.toList.drop i).take (k - i)).length ≤ 10 := by rw [List.length_take]; omega
  have h2 : 10 ^ ((s.data.toList.drop i).take (k - i)).length ≤ 10 ^ 10 := Nat.pow_le_pow_right (by omega) hl
  have h3 : (10 : Nat) ^ 10 = 10000000000 := by decide
  rw [h.1]; omega
theorem Rd.next {s : ByteArray} {i k : Nat} {n : Int} (h : Rd s i k n) (hi : i ≤ k) (hk : k < s.size) (h0 : (48 : Int) ≤ (s[k].toNat : Int)) (h1 : (s[k].toNat : Int) ≤ 57) : Rd s i (k + 1) (n * 10 + ((s[k].toNat : Int) - 48)) := by
  unfold Rd at *
  rw [pre_snoc s i k hi hk, fold_snoc]
  refine ⟨by rw [h.1]; omega, ?_⟩
  rw [List.all_append, h.2]
  simp [Tx.isDig]; omega
theorem Rd.bad {s : ByteArray} {i k : Nat} (hi : i ≤ k) (hk : k < s.size) (h : (s[k].toNat : Int) < 48 ∨ 57 < (s[k].toNat : Int)) : (s.data.toList.drop i).all Tx.isDig = false := by
  have hm : s[k] ∈ s.data.toList.drop i := by
    have hk' : k < s.data.toList.length := by simpa using hk
    have e : s[k] = (s.data.toList.drop i)[k - i]'(by rw [List.length_drop]; omega) := by
      rw [List.getElem_drop]
      have e2 : i + (k - i) = k := by omega
      simp only [e2]; rfl
    rw [e]; exact List.getElem_mem _
  cases hh : (s.data.toList.drop i).all Tx.isDig
  · rfl
  · have := List.all_eq_true.1 hh _ hm
    simp only [Tx.isDig, Bool.and_eq_true, decide_eq_true_eq] at this; omega
theorem Rd.done {s : ByteArray} {i k : Nat} {n : Int} (h : Rd s i k n) (hk : ¬ k < s.size) : n = (Tx.foldN (s.data.toList.drop i) : Int) ∧ (s.data.toList.drop i).all Tx.isDig = true := by
  have e : (s.data.toList.drop i).take (k - i) = s.data.toList.drop i := by
    apply List.take_of_length_le
    rw [List.length_drop]; have : s.data.toList.length = s.size := by simp
    omega
  unfold Rd at h; rw [e] at h; exact h

theorem neg_of {s : ByteArray} (hp : 0 < s.size) : Tx.negL s.data.toList = (s[0] == 45) := by
  have h0 : s.data.toList.head? = some s[0] := by
    rw [List.head?_eq_getElem?, Array.getElem?_toList]
    exact Array.getElem?_eq_some_iff.2 ⟨hp, rfl⟩
  unfold Tx.negL
  rw [h0]; rfl
theorem head_of {s : ByteArray} {i : Nat} (hi : i < s.size) : (s.data.toList.drop i).head? = some s[i] := by
  rw [List.head?_drop, Array.getElem?_toList]
  exact Array.getElem?_eq_some_iff.2 ⟨hi, rfl⟩
theorem u8_eq (c : UInt8) (k : Nat) (hk : k < 256) : (((c.toNat : Int) == (k : Int)) = true ↔ c = UInt8.ofNat k) := by
  constructor
  · intro h
    have h' : c.toNat = k := by have := eq_of_beq h; omega
    apply UInt8.toNat_inj.1
    rw [h', UInt8.toNat_ofNat']; omega
  · rintro rfl
    simp [UInt8.toNat_ofNat']; omega

/-- What is read, by the place where the digits begin. -/
theorem rd_form {s : ByteArray} {i : Nat} (hi : Tx.bodyL s.data.toList = s.data.toList.drop i) (hl : i + 1 ≤ s.size) (hl2 : s.size - i ≤ 10) :
    Tx.rdL s.data.toList = if (s.data.toList.drop i).all Tx.isDig = false then 0 else if (s.data.toList.drop i).head? = some 48 ∧ (Tx.negL s.data.toList = true ∨ s.size > 1) then 0 else if Tx.negL s.data.toList then -(Tx.foldN (s.data.toList.drop i) : Int) else Tx.foldN (s.data.toList.drop i) := by
  unfold Tx.rdL
  rw [hi]
  have e : s.data.toList.length = s.size := by simp
  rw [if_neg (by rw [List.length_drop, e]; omega), e]

set_option maxHeartbeats 1000000 in
set_option maxRecDepth 100000 in
theorem read0 (s : ByteArray) (hs : s.size ≤ 2000000) (w : World) (hp : 0 < s.size) (hne : s.toList.isEmpty = false) (h45 : ((s[0].toNat : Int) == 45) = false) (l1 : 0 < s.size) (l2 : s.size - 0 ≤ 10)
    (hbody : Tx.bodyL s.data.toList = s.data.toList.drop 0) (hneg : Tx.negL s.data.toList = false) :
    Calls Tryz.prog 41 #[.string s] w fun e w' => RdPost (Tx.rdL s.data.toList) w e w' := by
  have hform := rd_form hbody (by omega) l2
  rw [hneg] at hform
  have HF : Hid (Tx.rdL s.data.toList = if (s.data.toList.drop 0).all Tx.isDig = false then 0 else if (s.data.toList.drop 0).head? = some 48 ∧ (false = true ∨ s.size > 1) then 0 else if false = true then -(Tx.foldN (s.data.toList.drop 0) : Int) else Tx.foldN (s.data.toList.drop 0)) := hform
  clear hform hbody hneg
  have t1 : ¬ ((s.size : Int) - 0 < 1) := by omega
  have t2 : ¬ ((10 : Int) < (s.size : Int) - 0) := by omega
  go_enter Tryz.func41, Tryz.ntmps41
  go_wp2
  go_loop [6, 7] (fun nv kv => ∃ (n : Int) (k : Nat), 0 ≤ k ∧ k ≤ s.size ∧ kv = .int .i64 k ∧ nv = .int .i64 n ∧ Rd s 0 k n) (fun _ kv => s.size - (intOf kv).toNat)
  case atStart => exact ⟨0, 0, Nat.le_refl _, by omega, rfl, rfl, by simp [Rd, Tx.foldN]⟩
  case round =>
    obtain ⟨n, k, hk0, hk1, rfl, rfl, hd⟩ := hrel
    have hbd := hd.bd (by omega)
    have b0 := hbd.1
    have b1 := hbd.2
    clear hbd
    have HD : Hid (Rd s 0 k n) := hd
    clear hd
    by_cases hlt : k < s.size
    · by_cases c0 : (s[k].toNat : Int) < 48
      · go_wp2
        go_ret2
        exact RdPost.mk (by rw [HF.out, if_pos (Rd.bad hk0 hlt (Or.inl c0))])
      · by_cases c1 : (57 : Int) < (s[k].toNat : Int)
        · go_wp2
          go_ret2
          exact RdPost.mk (by rw [HF.out, if_pos (Rd.bad hk0 hlt (Or.inr c1))])
        · go_wp2
          go_round
          case rel => exact ⟨_, k + 1, by omega, by omega, by go_num, rfl, HD.out.next hk0 hlt (by omega) (by omega)⟩
          case measure => simp [intOf]; omega
    · have hdn := HD.out.done hlt
      have HN : Hid (n = (Tx.foldN (s.data.toList.drop 0) : Int) ∧ (s.data.toList.drop 0).all Tx.isDig = true) := hdn
      clear hdn
      have hh := head_of (s := s) (i := 0) (by omega)
      have HH : Hid ((s.data.toList.drop 0).head? = some s[0]) := hh
      clear hh
      cases h48 : ((s[0].toNat : Int) == 48)
      · have HQ : Hid (¬ ((s.data.toList.drop 0).head? = some 48 ∧ (false = true ∨ s.size > 1))) := by
          rintro ⟨h, _⟩
          rw [HH.out] at h
          have := (u8_eq s[0] 48 (by omega)).2 (by simpa using h)
          rw [show ((48 : Nat) : Int) = 48 from rfl] at this
          rw [this] at h48; simp at h48
        go_wp2
        go_ret2
        exact RdPost.mk (by rw [HF.out, HN.out.2, if_neg (by simp), if_neg HQ.out, HN.out.1]; try rfl)
      · have H8 : Hid ((s.data.toList.drop 0).head? = some 48) := by
          have := (u8_eq s[0] 48 (by omega)).1 h48
          rw [HH.out, this]; rfl
        by_cases h1 : 1 < s.size
        · have h1' : (1 : Int) < (s.size : Int) := by omega
          go_wp2
          go_ret2
          exact RdPost.mk (by rw [HF.out, HN.out.2, if_neg (by simp), if_pos ⟨H8.out, Or.inr h1⟩]; try rfl)
        · have h1' : ¬ ((1 : Int) < (s.size : Int)) := by omega
          go_wp2
          go_ret2
          exact RdPost.mk (by rw [HF.out, HN.out.2, if_neg (by simp), if_neg (fun h => h.2.elim (by simp) h1), HN.out.1]; try rfl)

set_option maxHeartbeats 1000000 in
set_option maxRecDepth 100000 in
theorem read1 (s : ByteArray) (hs : s.size ≤ 2000000) (w : World) (hp : 0 < s.size) (hne : s.toList.isEmpty = false) (h45 : ((s[0].toNat : Int) == 45) = true) (l1 : 1 < s.size) (l2 : s.size - 1 ≤ 10)
    (hbody : Tx.bodyL s.data.toList = s.data.toList.drop 1) (hneg : Tx.negL s.data.toList = true) :
    Calls Tryz.prog 41 #[.string s] w fun e w' => RdPost (Tx.rdL s.data.toList) w e w' := by
  have hform := rd_form hbody (by omega) l2
  rw [hneg] at hform
  have HF : Hid (Tx.rdL s.data.toList = if (s.data.toList.drop 1).all Tx.isDig = false then 0 else if (s.data.toList.drop 1).head? = some 48 ∧ (true = true ∨ s.size > 1) then 0 else if true = true then -(Tx.foldN (s.data.toList.drop 1) : Int) else Tx.foldN (s.data.toList.drop 1)) := hform
  clear hform hbody hneg
  have t1 : ¬ ((s.size : Int) - 1 < 1) := by omega
  have t2 : ¬ ((10 : Int) < (s.size : Int) - 1) := by omega
  go_enter Tryz.func41, Tryz.ntmps41
  go_wp2
  go_loop [6, 7] (fun nv kv => ∃ (n : Int) (k : Nat), 1 ≤ k ∧ k ≤ s.size ∧ kv = .int .i64 k ∧ nv = .int .i64 n ∧ Rd s 1 k n) (fun _ kv => s.size - (intOf kv).toNat)
  case atStart => exact ⟨0, 1, Nat.le_refl _, by omega, rfl, rfl, by simp [Rd, Tx.foldN]⟩
  case round =>
    obtain ⟨n, k, hk0, hk1, rfl, rfl, hd⟩ := hrel
    have hbd := hd.bd (by omega)
    have b0 := hbd.1
    have b1 := hbd.2
    clear hbd
    have HD : Hid (Rd s 1 k n) := hd
    clear hd
    by_cases hlt : k < s.size
    · by_cases c0 : (s[k].toNat : Int) < 48
      · go_wp2
        go_ret2
        exact RdPost.mk (by rw [HF.out, if_pos (Rd.bad hk0 hlt (Or.inl c0))])
      · by_cases c1 : (57 : Int) < (s[k].toNat : Int)
        · go_wp2
          go_ret2
          exact RdPost.mk (by rw [HF.out, if_pos (Rd.bad hk0 hlt (Or.inr c1))])
        · go_wp2
          go_round
          case rel => exact ⟨_, k + 1, by omega, by omega, by go_num, rfl, HD.out.next hk0 hlt (by omega) (by omega)⟩
          case measure => simp [intOf]; omega
    · have hdn := HD.out.done hlt
      have HN : Hid (n = (Tx.foldN (s.data.toList.drop 1) : Int) ∧ (s.data.toList.drop 1).all Tx.isDig = true) := hdn
      clear hdn
      have hh := head_of (s := s) (i := 1) (by omega)
      have HH : Hid ((s.data.toList.drop 1).head? = some s[1]) := hh
      clear hh
      cases h48 : ((s[1].toNat : Int) == 48)
      · have HQ : Hid (¬ ((s.data.toList.drop 1).head? = some 48 ∧ (true = true ∨ s.size > 1))) := by
          rintro ⟨h, _⟩
          rw [HH.out] at h
          have := (u8_eq s[1] 48 (by omega)).2 (by simpa using h)
          rw [show ((48 : Nat) : Int) = 48 from rfl] at this
          rw [this] at h48; simp at h48
        go_wp2
        go_ret2
        exact RdPost.mk (by rw [HF.out, HN.out.2, if_neg (by simp), if_neg HQ.out, HN.out.1]; try rfl)
      · have HQ : Hid ((s.data.toList.drop 1).head? = some 48 ∧ (true = true ∨ s.size > 1)) := by
          refine ⟨?_, Or.inl rfl⟩
          rw [HH.out]
          have := (u8_eq s[1] 48 (by omega)).1 h48
          rw [this]; rfl
        go_wp2
        go_ret2
        exact RdPost.mk (by rw [HF.out, HN.out.2, if_neg (by simp), if_pos HQ.out]; try rfl)

end St
end Go.Proofs.YtnlanikjlokboaaGreatDoor
