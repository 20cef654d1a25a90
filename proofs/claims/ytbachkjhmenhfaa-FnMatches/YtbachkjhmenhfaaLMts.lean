/- The walk of the law FnMatches. -/
import Derived.Test.YtbachkjhmenhfaaDm1
import Derived.Test.YtbachkjhmenhfaaGm4
import Derived.Test.YtbachkjhmenhfaaGm5
namespace Go.Proofs.Ytbachkjhmenhfaa
namespace Pg
open Go.ChangeShapes Go.WideShapes Go.ChangeAt Go.RowKit St

theorem ext_list (t : ByteArray) (k : Nat) : (t.extract 0 k).data.toList = t.data.toList.take k := by simp
def begB (p t : ByteArray) : Bool := (List.range (t.size + 1)).any fun j => matM p.data.toList (t.data.toList.take j)
set_option maxHeartbeats 1000000 in
theorem anyBegin_at (p t : ByteArray) (ht : t.size ≤ 1000) (w : World) :
    Calls Try.prog 13 #[.string p, .string t] w fun e w' => e = .returned (.bool (begB p t)) ∧ Below w.heap.size w w' := by
  obtain ⟨F, hF⟩ : ∃ F : Nat → Bool, F = fun j => matM p.data.toList (t.data.toList.take j) := ⟨_, rfl⟩
  have HB : Hid (begB p t = (List.range (t.size + 1)).any F) := by show _ = _; rw [hF]; rfl
  have HF : Hid (F = fun j => matM p.data.toList (t.data.toList.take j)) := hF
  clear hF
  go_enter Try.func13, Try.ntmps13
  go_wp2
  go_loopw [5] (fun i wr => ∃ k : Nat, k ≤ t.size + 1 ∧ i = .int .i64 (k : Int) ∧ Hid ((List.range k).any F = false) ∧ Below w.heap.size w wr) (fun i _ => t.size + 1 - (intOf i).toNat)
  case atStart => exact ⟨0, Nat.zero_le _, rfl, rfl, Below.refl _ _⟩
  case round =>
    obtain ⟨k, hk, rfl, hno, hb⟩ := hrel
    by_cases hlt : k ≤ t.size
    · have hki : (k : Int) ≤ (t.size : Int) := by omega
      have hk0 : (0 : Int) ≤ (k : Int) := by omega
      have HX : Hid ((t.extract 0 k).data.toList = t.data.toList.take k) := ext_list t k
      have HV : Hid (matM p.data.toList (t.extract 0 k).data.toList = F k) := by show _ = _; rw [HX.out, HF.out]
      go_wp2_with fail
      refine (implMatches p (t.extract 0 k) _).mono ?_
      rw [HV.out]
      rintro e w1 ⟨rfl, hb1⟩
      have hb2 := below_over hb hb1
      clear hb1
      cases hq : F k
      · have HN : Hid ((List.range (k + 1)).any F = false) := by show _ = _; rw [List.range_succ, List.any_append, hno.out]; simp [hq]
        clear hno hq HX HV
        go_wp2
        go_roundw
        case rel => exact ⟨k + 1, by omega, by go_num, HN.out, hb2⟩
        case measure => simp [intOf]; omega
      · have HN : Hid (begB p t = true) := by
          show _ = _
          rw [HB.out, List.any_eq_true]
          exact ⟨k, List.mem_range.2 (by omega), hq⟩
        clear hno hq HX HV
        go_wp2
        go_ret
        exact ⟨by rw [HN.out]; rfl, hb2⟩
    · have HN : Hid (begB p t = false) := by
        show _ = _
        obtain rfl : k = t.size + 1 := by omega
        rw [HB.out]; exact hno.out
      clear hno
      go_wp2
      go_ret
      exact ⟨by rw [HN.out]; rfl, hb⟩

theorem mts_big (w : World) (a0 : Option Addr) (len cap : Nat) (hl : ¬ len ≤ 4096) :
    Calls Try.prog 3 #[.slice a0 len cap] w fun e w' => e = .returned (.bool true) ∧ Below w.heap.size w w' := by
  have hnb : decide ((4096 : Int) < (len : Int)) = true := by simp; omega
  go_enter Try.func3, Try.ntmps3
  go_wp2_with (go_at_call 9; refine (Cu.big_at _ _ _ _).mono ?_; rintro e w1 ⟨rfl, rfl⟩)
  go_ret
  exact ⟨rfl, Below.refl _ _⟩
/-- What the law asks, told. -/
theorem mts_facts (p t : ByteArray) (hp : p.size ≤ 50) (ht : t.size ≤ 50) :
    matM [42] t.data.toList = true ∧ matM t.data.toList t.data.toList = true ∧ (matM (p ++ ⟨#[42]⟩).data.toList t.data.toList = begB p t) ∧ matM ((⟨#[63]⟩ : ByteArray) ++ p).data.toList ((⟨#[97]⟩ : ByteArray) ++ t).data.toList = matM p.data.toList t.data.toList := by
  have hpl := str_len p
  have htl := str_len t
  refine ⟨mat_star (by omega), mat_self (by omega), ?_, ?_⟩
  · have e : (p ++ ⟨#[42]⟩).data.toList = p.data.toList ++ [42] := by simp
    rw [e, mat_begin (by omega) (by omega)]
    unfold begB
    rw [htl]
  · rw [cons_str, cons_str]
    exact mat_any 97 (by omega) (by omega)
set_option maxRecDepth 100000 in
set_option maxHeartbeats 4000000 in
theorem mts_small (w : World) (a0 : Option Addr) (len cap : Nat) (hB : Cu.Bytes w.heap.size w a0 len) :
    Calls Try.prog 3 #[.slice a0 len cap] w fun e w' => e = .returned (.bool true) ∧ Below w.heap.size w w' := by
  have hl := hB.1
  have hnb : decide ((4096 : Int) < (len : Int)) = false := by simp; omega
  have HB : Hid (Cu.Bytes w.heap.size w a0 len) := hB
  clear hB
  go_enter Try.func3, Try.ntmps3
  go_wp2_with fail
  refine (Cu.big_at _ _ _ _).mono ?_
  rintro e w1 ⟨rfl, rfl⟩
  go_wp2_with fail
  refine (Cu.drawMatches_at w.heap.size _ _ _ _ HB.out (Nat.le_refl _)).mono ?_
  rintro e w2 ⟨p, t, rfl, hp60, ht100, hb2⟩
  obtain ⟨P, hP⟩ : ∃ P, P = matM p.data.toList t.data.toList := ⟨_, rfl⟩
  have HP : Hid (P = matM p.data.toList t.data.toList) := hP
  clear hP HB hnb
  go_wp2_with fail
  refine (implMatches p t _).mono ?_
  rw [← HP.out]
  rintro e w3 ⟨rfl, hb3⟩
  have hw3 := below_over hb2 hb3
  clear hb2 hb3
  go_wp2_with fail
  refine (specMatches p t _).mono ?_
  rw [← HP.out]
  rintro e w4 ⟨rfl, hb4⟩
  have hw4 := below_over hw3 hb4
  clear hw3 hb4
  have hPP : (P != P) = false := by simp
  by_cases hp : (50 : Int) < (p.size : Int)
  · go_wp2
    go_ret
    exact ⟨rfl, hw4⟩
  · by_cases ht : (50 : Int) < (t.size : Int)
    · go_wp2
      go_ret
      exact ⟨rfl, hw4⟩
    · have HFA := mts_facts p t (by omega) (by omega)
      have F1 : Hid (matM [42] t.data.toList = true) := HFA.1
      have F2 : Hid (matM t.data.toList t.data.toList = true) := HFA.2.1
      have F3 : Hid (matM (p ++ ⟨#[42]⟩).data.toList t.data.toList = begB p t) := HFA.2.2.1
      have F4 : Hid (matM ((⟨#[63]⟩ : ByteArray) ++ p).data.toList ((⟨#[97]⟩ : ByteArray) ++ t).data.toList = P) := by show _ = _; rw [HFA.2.2.2, HP.out]
      clear HFA
      obtain ⟨Q, hQ⟩ : ∃ Q, Q = begB p t := ⟨_, rfl⟩
      rw [← hQ] at F3
      have HQ : Hid (Q = begB p t) := hQ
      clear hQ
      have hQQ : (Q != Q) = false := by simp
      go_wp2_with fail
      refine (implMatches ⟨#[42]⟩ t _).mono ?_
      rw [show (⟨#[42]⟩ : ByteArray).data.toList = [42] from rfl, F1.out]
      rintro e w5 ⟨rfl, hb5⟩
      have hw5 := below_over hw4 hb5
      clear hw4 hb5 F1
      go_wp2_with fail
      refine (implMatches t t _).mono ?_
      rw [F2.out]
      rintro e w6 ⟨rfl, hb6⟩
      have hw6 := below_over hw5 hb6
      clear hw5 hb6 F2
      go_wp2_with fail
      have hC := implMatches (p ++ (⟨#[42]⟩ : ByteArray)) t w6
      rw [F3.out] at hC
      refine hC.mono ?_
      rintro e w7 ⟨rfl, hb7⟩
      have hw7 := below_over hw6 hb7
      clear hw6 hb7 F3 hC
      go_wp2_with fail
      refine (anyBegin_at p t (by omega) _).mono ?_
      rw [← HQ.out]
      rintro e w8 ⟨rfl, hb8⟩
      have hw8 := below_over hw7 hb8
      clear hw7 hb8 HQ
      go_wp2_with fail
      have hC2 := implMatches ((⟨#[63]⟩ : ByteArray) ++ p) ((⟨#[97]⟩ : ByteArray) ++ t) w8
      rw [F4.out] at hC2
      refine hC2.mono ?_
      rintro e w9 ⟨rfl, hb9⟩
      have hw9 := below_over hw8 hb9
      clear hw8 hb9 F4 hC2
      go_wp2
      go_loopw [6, 7] (fun v i wr => ∃ (k : Nat) (b : Bool), k ≤ p.size ∧ v = .bool b ∧ i = .int .i64 (k : Int) ∧ Hid (b = (p.data.toList.take k).any (· == 42)) ∧ Below w.heap.size w wr) (fun _ i _ => p.size - (intOf i).toNat)
      case atStart => exact ⟨0, false, Nat.zero_le _, rfl, rfl, rfl, hw9⟩
      case round =>
        clear hw9
        obtain ⟨k, b, hk, rfl, rfl, hst, hb⟩ := hrel
        by_cases hlt : k < p.size
        · have hki : (k : Int) < (p.size : Int) := by omega
          have HN : Hid ((p.data.toList.take (k + 1)).any (· == 42) = (b || (p[k] == 42))) := by
            have hkl : k < p.data.toList.length := by rw [str_len]; exact hlt
            show _ = _
            rw [List.take_succ_eq_append_getElem hkl, List.any_append, hst.out]
            simp
            rfl
          have hx : ((p[k].toNat : Int) == 42) = (p[k] == 42) := by rw [show (42 : Int) = ((42 : UInt8).toNat : Int) from rfl, u8_eq]
          clear hst
          generalize (p[k] == 42) = d at *
          cases b
          · go_wp2
            go_roundw
            case rel => exact ⟨k + 1, _, by omega, rfl, by go_num, by show _ = _; rw [HN.out]; rfl, hb⟩
            case measure => simp [intOf]; omega
          · go_wp2
            go_roundw
            case rel => exact ⟨k + 1, _, by omega, rfl, by go_num, by show _ = _; rw [HN.out]; rfl, hb⟩
            case measure => simp [intOf]; omega
        · have HST : Hid (b = p.data.toList.any (· == 42)) := by
            have h := hst.out
            rw [List.take_of_length_le (by rw [str_len]; omega)] at h
            exact h
          clear hst
          cases b
          · cases P
            · go_wp2
              go_ret
              exact ⟨rfl, hb⟩
            · have hlen : p.size = t.size := by
                have h := mat_len (P := p.data.toList) (T := t.data.toList) (fun c hc e => by
                  have h1 := HST.out
                  have h2 : p.data.toList.any (· == 42) = true := List.any_eq_true.2 ⟨c, hc, by simp [e]⟩
                  rw [h2] at h1; simp at h1) HP.out.symm
                rw [str_len, str_len] at h
                exact h
              have hle : ((p.size : Int) == (t.size : Int)) = true := by rw [beq_iff_eq]; omega
              clear hlen
              go_wp2
              go_ret
              exact ⟨rfl, hb⟩
          · go_wp2
            go_ret
            exact ⟨rfl, hb⟩
end Pg
end Go.Proofs.Ytbachkjhmenhfaa
