/- Contracts of the specification's KeptClasses and KeptNames. -/
import Derived.Test.YtbachkjhmenhfaaLb1
import Derived.Test.YtbachkjhmenhfaaLb5
import Derived.Test.YtbachkjhmenhfaaGm5
import Derived.Deep.RegionWith
namespace Go.Proofs.Ytbachkjhmenhfaa
namespace Pg
open Go.ChangeShapes Go.WideShapes Go.ChangeAt Go.RowKit St

theorem keptN_lt (l rules : List ByteArray) : ∀ k, ∀ x ∈ keptN l rules k, x < (k : Int)
  | 0, x, h => by simp [keptN] at h
  | k + 1, x, h => by
    have ih := keptN_lt l rules k
    unfold keptN at h
    rcases List.mem_append.1 h with h | h
    · have := ih x h; omega
    · split at h
      · simp at h; omega
      · simp at h
theorem putL_end {L : List Int} {n : Int} (h : ∀ x ∈ L, x < n) : putL L n = L ++ [n] := by
  induction L with
  | nil => rfl
  | cons y L ih =>
    have hy := h y List.mem_cons_self
    simp only [putL, if_pos hy]
    rw [ih fun x hx => h x (List.mem_cons_of_mem _ hx)]
    rfl
theorem putL_idem (L : List Int) (n : Int) : putL (putL L n) n = putL L n := by
  induction L with
  | nil => simp [putL]
  | cons y L ih =>
    simp only [putL]
    by_cases h1 : y < n
    · simp only [if_pos h1, putL, ih]
    · by_cases h2 : y = n
      · simp [h2, putL]
      · simp [h1, h2, putL]
/-- What the specification has ahead of label k; and behind some rules. -/
def staL (l rules : List ByteArray) (k : Nat) : List Int := if k = 0 then [0] else keptN l rules k
def stepL (l rules : List ByteArray) (k : Nat) (b : Bool) : List Int := if b = true then putL (staL l rules k) k else staL l rules k
theorem stepL_put (l rules : List ByteArray) (k : Nat) (b : Bool) : putL (stepL l rules k b) k = stepL l rules k true := by
  unfold stepL
  cases b
  · rfl
  · exact putL_idem _ _
theorem stepL_end {l rules : List ByteArray} {k : Nat} (h : k < l.length) : stepL l rules k (askB rules l[k]) = staL l rules (k + 1) := by
  have hh : hitK l rules k = (decide (k = 0) || askB rules l[k]) := by unfold hitK; rw [List.getElem?_eq_getElem h]
  unfold stepL staL
  rw [if_neg (show ¬ k + 1 = 0 by omega)]
  by_cases h0 : k = 0
  · subst h0
    have e : hitK l rules 0 = true := rfl
    rw [keptN_yes e]
    cases askB rules l[0] <;> simp [keptN, putL]
  · rw [if_neg h0]
    cases hq : askB rules l[k]
    · rw [keptN_no (by rw [hh, decide_eq_false h0, hq]; rfl)]; rfl
    · rw [keptN_yes (by rw [hh, decide_eq_false h0, hq]; rfl)]
      exact putL_end (keptN_lt l rules k)
theorem staL_len (l rules : List ByteArray) (k : Nat) : (staL l rules k).length ≤ k + 1 := by
  unfold staL
  split
  · simp
  · have := keptN_len l rules k; omega
theorem stepL_len (l rules : List ByteArray) (k : Nat) (b : Bool) : (stepL l rules k b).length ≤ k + 2 := by
  have := staL_len l rules k
  unfold stepL
  split
  · have := putL_len (staL l rules k) k; omega
  · omega

set_option maxHeartbeats 1000000 in
theorem l15Rules_at (a : Option Addr) (cap : Nat) (l : List ByteArray) (hl : l.length ≤ 1048576) (w : World) (h : ST 0 w (.slice a l.length cap) l) :
    Calls Try.prog 46 #[.slice a l.length cap] w fun e w' => e = .returned (.bool (rulesB l)) ∧ w' = w := by
  have H : Hid (ST 0 w (.slice a l.length cap) l) := h
  have HR : Hid (rulesB l = (decide ((l.length : Int) ≤ 20) && !(l.any longB))) := rules_long l
  clear h
  go_enter Try.func46, Try.ntmps46
  go_wp2
  go_loopw [3] (fun i wr => ∃ k : Nat, k ≤ l.length ∧ i = .int .i64 (k : Int) ∧ Hid (((l.take k).any longB) = false) ∧ wr = w) (fun i _ => l.length - (intOf i).toNat)
  case atStart => exact ⟨0, Nat.zero_le _, rfl, rfl, rfl⟩
  case round =>
    obtain ⟨k, hk, rfl, hno, rfl⟩ := hrel
    by_cases hlt : k < l.length
    · have hki : (k : Int) < (l.length : Int) := by omega
      obtain ⟨b, o, rfl, _, c0⟩ := H.out.get hlt
      unfold StrAt at c0
      rw [Nat.mul_one] at c0
      have HE : Hid (longB l[k] = true → (l.any longB) = true) := any_yes longB hlt
      have HN : Hid (((l.take (k + 1)).any longB) = (((l.take k).any longB) || longB l[k])) := any_take _ hlt
      obtain ⟨t, ht⟩ : ∃ t, t = l[k] := ⟨_, rfl⟩
      rw [← ht] at c0 HE HN
      clear ht
      by_cases he : (60 : Int) < (t.size : Int)
      · have hq : longB t = true := by unfold longB; simp; omega
        have HM : Hid (rulesB l = false) := by show _ = _; rw [HR.out, HE.out hq, Bool.not_true, Bool.and_false]
        clear HE HN hno hq HR
        go_wp2
        go_ret
        exact ⟨by rw [HM.out]; rfl, rfl⟩
      · have hq : longB t = false := by unfold longB; simp; omega
        have HM : Hid (((l.take (k + 1)).any longB) = false) := by show _ = _; rw [HN.out, hno.out, hq]; rfl
        clear HE HN hno hq
        go_wp2
        go_roundw
        case rel => exact ⟨k + 1, by omega, by go_num, HM.out, by simp⟩
        case measure => simp [intOf]; omega
    · have HM : Hid (rulesB l = decide ((l.length : Int) ≤ 20)) := by
        have e := hno.out
        rw [List.take_of_length_le (by omega)] at e
        show _ = _
        rw [HR.out, e, Bool.not_false, Bool.and_true]
      clear hno HR
      go_wp2
      go_ret
      exact ⟨by rw [HM.out]; rfl, rfl⟩

set_option maxRecDepth 100000 in
set_option maxHeartbeats 1000000 in
theorem l15Kept_at (a1 a2 : Option Addr) (c1 c2 : Nat) (l rules : List ByteArray) (h1 : l.length ≤ 20) (h2 : rules.length ≤ 20) (w : World) (s1 : ST 0 w (.slice a1 l.length c1) l) (s2 : ST 0 w (.slice a2 rules.length c2) rules) :
    Calls Try.prog 47 #[.slice a1 l.length c1, .slice a2 rules.length c2] w fun e w' => ∃ v, e = .returned v ∧ Lst w' v (staL l rules l.length) ∧ Below w.heap.size w w' := by
  have S1 : Hid (ST 0 w (.slice a1 l.length c1) l) := s1
  have S2 : Hid (ST 0 w (.slice a2 rules.length c2) rules) := s2
  clear s1 s2
  have hb0 : Below w.heap.size w (w.alloc (.cells #[.int .i64 0] 2)) := (Below.refl _ _).alloc (Nat.le_refl _) _
  have HL0 : Hid (Lst (w.alloc (.cells #[.int .i64 0] 2)) (.slice (some ⟨w.heap.size, 0, none⟩) 1 1) [0]) := (grow_lit1 w 0).lst
  go_enter Try.func47, Try.ntmps47
  go_wp2
  go_loopw [5, 6] (fun v i wr => ∃ k : Nat, k ≤ l.length ∧ Hid (Lst wr v (staL l rules k)) ∧ i = .int .i64 (k : Int) ∧ Below w.heap.size w wr) (fun _ i _ => l.length - (intOf i).toNat)
  case atStart => exact ⟨0, Nat.zero_le _, HL0.out, rfl, hb0⟩
  case round =>
    clear HL0 hb0
    obtain ⟨k, hk, hv, rfl, hb⟩ := hrel
    by_cases hlt : k < l.length
    · have hki : (k : Int) < (l.length : Int) := by omega
      have HEND : Hid (stepL l rules k (askB rules l[k]) = staL l rules (k + 1)) := stepL_end hlt
      have HV0 : Hid (Lst wr u5 (stepL l rules k false)) := hv.out
      clear hv
      obtain ⟨t, ht⟩ : ∃ t, t = l[k] := ⟨_, rfl⟩
      have HTK : Hid (t = l[k]) := ht
      rw [← ht] at HEND
      clear ht
      have HLB : Hid (∀ b, (stepL l rules k b).length ≤ 1000) := fun b => by have := stepL_len l rules k b; omega
      have HPUT : Hid (∀ b, putL (stepL l rules k b) k = stepL l rules k true) := fun b => stepL_put l rules k b
      go_wp2
      go_loopw [5, 7] (fun v i wr => ∃ j : Nat, j ≤ rules.length ∧ Hid (Lst wr v (stepL l rules k (askB (rules.take j) t))) ∧ i = .int .i64 (j : Int) ∧ Below w.heap.size w wr) (fun _ i _ => rules.length - (intOf i).toNat)
      case atStart => exact ⟨0, Nat.zero_le _, HV0.out, rfl, hb⟩
      case round =>
        clear HV0 hb
        obtain ⟨j, hj, hv, rfl, hb⟩ := hrel
        by_cases hjl : j < rules.length
        · have hji : (j : Int) < (rules.length : Int) := by omega
          obtain ⟨b, o, rfl, _, c0⟩ := (S1.out.on (Keep.of hb)).get hlt
          obtain ⟨b', o', rfl, _, d0⟩ := (S2.out.on (Keep.of hb)).get hjl
          unfold StrAt at c0 d0
          rw [Nat.mul_one] at c0 d0
          rw [← HTK.out] at c0
          have HN : Hid (askB (rules.take (j + 1)) t = (askB (rules.take j) t || matT rules[j] t)) := any_take (fun r => matT r t) hjl
          obtain ⟨r, hr⟩ : ∃ r, r = rules[j] := ⟨_, rfl⟩
          rw [← hr] at d0 HN
          clear hr
          have HM : Hid (matM r.data.toList t.data.toList = matT r t) := rfl
          go_wp2_with fail
          go_region_with ((go_at_call 12; refine (specMatches r t _).mono ?_; rintro e w3 ⟨rfl, hb3⟩))
          all_goals
            have hb4 : Below w.heap.size w w3 := below_over (hb.drew) hb3
            have hv3 : Lst w3 u5 (stepL l rules k (askB (rules.take j) t)) := hv.out.on (below_over (Below.refl _ _).drew hb3)
            have HV3 : Hid (Lst w3 u5 (stepL l rules k (askB (rules.take j) t))) := hv3
            clear hb3 hv3 hv c0 d0
            rw [HM.out]
            cases hq : matT r t
            · have HX : Hid (askB (rules.take (j + 1)) t = askB (rules.take j) t) := by show _ = _; rw [HN.out, hq, Bool.or_false]
              clear HN hq
              go_wp2
              go_roundw
              case rel => exact ⟨j + 1, by omega, by show Lst _ _ _; rw [HX.out]; exact HV3.out, by go_num, hb4⟩
              case measure => simp [intOf]; omega
            · have HX : Hid (askB (rules.take (j + 1)) t = true) := by show _ = _; rw [HN.out, hq, Bool.or_true]
              clear HN hq
              go_wp2_with fail
              refine (l1Put (stepL l rules k (askB (rules.take j) t)) u5 k (HLB.out _) _ HV3.out).mono ?_
              rw [HPUT.out]
              rintro e w4 ⟨v4, rfl, hv4, hb5⟩
              have HV4 : Hid (Lst w4 v4 (stepL l rules k true)) := hv4
              have hb6 := below_over hb4 hb5
              clear hv4 hb5 HV3
              go_wp2
              go_roundw
              case rel => exact ⟨j + 1, by omega, by show Lst _ _ _; rw [HX.out]; exact HV4.out, by go_num, hb6⟩
              case measure => simp [intOf]; omega
        · have HX : Hid (Lst wr u5 (staL l rules (k + 1))) := by
            obtain rfl : j = rules.length := by omega
            have h := hv.out
            rw [List.take_length, HEND.out] at h
            exact h
          clear hv HEND
          go_wp2
          go_roundw
          case rel => exact ⟨k + 1, by omega, HX.out, by go_num, hb⟩
          case measure => simp [intOf]; omega
    · obtain rfl : k = l.length := by omega
      go_wp2
      go_ret
      exact ⟨_, rfl, hv.out, hb⟩
end Pg
end Go.Proofs.Ytbachkjhmenhfaa
