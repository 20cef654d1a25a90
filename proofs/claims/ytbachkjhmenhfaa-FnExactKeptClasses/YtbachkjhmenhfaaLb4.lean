/- What is kept, plainly; contracts of the program's KeptClasses and KeptNames. -/
import Derived.Test.YtbachkjhmenhfaaLb0
namespace Go.Proofs.Ytbachkjhmenhfaa
namespace Pg
open Go.ChangeShapes Go.WideShapes Go.ChangeAt Go.RowKit St

def matT (r s : ByteArray) : Bool := matM r.data.toList s.data.toList
def askB (rules : List ByteArray) (s : ByteArray) : Bool := rules.any fun r => matT r s
def rulesB (rules : List ByteArray) : Bool := decide (rules.length ≤ 20) && rules.all fun r => decide (r.size ≤ 60)
def hitK (l rules : List ByteArray) (k : Nat) : Bool := decide (k = 0) || (match l[k]? with | some s => askB rules s | none => false)
def keptN (l rules : List ByteArray) : Nat → List Int
  | 0 => []
  | k + 1 => keptN l rules k ++ (if hitK l rules k = true then [(k : Int)] else [])
def keptL (l rules : List ByteArray) : List Int := keptN l rules l.length
theorem any_take {α : Type} {l : List α} {k : Nat} (f : α → Bool) (h : k < l.length) : (l.take (k + 1)).any f = ((l.take k).any f || f l[k]) := by
  rw [List.take_succ_eq_append_getElem h, List.any_append]; simp
theorem any_yes {α : Type} {l : List α} {k : Nat} (f : α → Bool) (h : k < l.length) (hf : f l[k] = true) : l.any f = true := by
  rw [List.any_eq_true]
  exact ⟨l[k], List.getElem_mem h, hf⟩

def longB (s : ByteArray) : Bool := decide (60 < s.size)
theorem tooLong_at (s : ByteArray) (w : World) : Calls Try.prog 58 #[.string s] w fun e w' => e = .returned (.bool (longB s)) ∧ w' = w := by
  have HE : Hid (decide ((60 : Int) < (s.size : Int)) = longB s) := by show _ = _; unfold longB; rw [decide_eq_decide]; omega
  go_enter Try.func58, Try.ntmps58
  go_wp2
  go_ret
  exact ⟨by rw [← HE.out]; rfl, rfl⟩
set_option maxHeartbeats 1000000 in
theorem indexLong_at (a : Option Addr) (cap : Nat) (l : List ByteArray) (hl : l.length ≤ 1048576) (w : World) (h : ST 0 w (.slice a l.length cap) l) :
    Calls Try.prog 62 #[.slice a l.length cap, .func (.func 58) #[] #[]] w fun e w' => ∃ r : Int, e = .returned (.int .i64 r) ∧ Hid (decide (0 ≤ r) = l.any longB) ∧ w' = w := by
  have H : Hid (ST 0 w (.slice a l.length cap) l) := h
  clear h
  go_enter Try.func62, Try.ntmps62
  go_wp2
  go_loopw [8] (fun i wr => ∃ k : Nat, k ≤ l.length ∧ i = .int .i64 (k : Int) ∧ Hid (((l.take k).any longB) = false) ∧ wr = w) (fun i _ => l.length - (intOf i).toNat)
  case atStart => exact ⟨0, Nat.zero_le _, rfl, rfl, rfl⟩
  case round =>
    obtain ⟨k, hk, rfl, hno, rfl⟩ := hrel
    by_cases hlt : k < l.length
    · have hki : (k : Int) < (l.length : Int) := by omega
      obtain ⟨b, o, rfl, _, c0⟩ := H.out.get hlt
      unfold StrAt at c0
      rw [Nat.mul_one] at c0
      have HE : Hid (longB l[k] = true → (l.any longB) = true) := any_yes longB hlt
      have HN : Hid (((l.take (k + 1)).any longB) = (((l.take k).any longB) || longB l[k])) := any_take _ hlt
      obtain ⟨t, ht⟩ : ∃ t, t = l[k] := ⟨_, rfl⟩
      rw [← ht] at c0 HE HN
      clear ht
      go_wp2_with fail
      refine (tooLong_at t _).mono ?_
      rintro e w1 ⟨rfl, rfl⟩
      cases he : longB t
      · have HM : Hid (((l.take (k + 1)).any longB) = false) := by show _ = _; rw [HN.out, hno.out, he]; rfl
        clear HE HN hno he
        go_wp2
        go_roundw
        case rel => exact ⟨k + 1, by omega, by go_num, HM.out, by simp⟩
        case measure => simp [intOf]; omega
      · have HM : Hid ((l.any longB) = true) := HE.out he
        clear HE HN hno he
        go_wp2
        go_ret
        exact ⟨_, rfl, by show decide (0 ≤ (k : Int)) = _; rw [HM.out]; simp, rfl⟩
    · have HM : Hid ((l.any longB) = false) := by
        have := hno.out
        rw [List.take_of_length_le (by omega)] at this
        exact this
      clear hno
      go_wp2
      go_ret
      exact ⟨_, rfl, by show decide (0 ≤ (-1 : Int)) = _; rw [HM.out]; rfl, rfl⟩
theorem containsLong_at (a : Option Addr) (cap : Nat) (l : List ByteArray) (hl : l.length ≤ 1048576) (w : World) (h : ST 0 w (.slice a l.length cap) l) :
    Calls Try.prog 59 #[.slice a l.length cap, .func (.func 58) #[] #[]] w fun e w' => e = .returned (.bool (l.any longB)) ∧ w' = w := by
  have H : Hid (ST 0 w (.slice a l.length cap) l) := h
  clear h
  go_enter Try.func59, Try.ntmps59
  go_wp2_with fail
  refine (indexLong_at a cap l hl _ H.out).mono ?_
  rintro e w1 ⟨r, rfl, hr, rfl⟩
  go_wp2
  go_ret
  exact ⟨by rw [← hr.out]; rfl, rfl⟩
theorem asked_at (u t : ByteArray) (g : Nat) (w : World) (hg : w.cell? ⟨g, 0, none⟩ = some (.string t)) : Calls Try.prog 60 #[.string u, .pointer (some ⟨g, 0, none⟩)] w fun e w' => e = .returned (.bool (matT u t)) ∧ Below w.heap.size w w' := by
  have HR : Hid (matM u.data.toList t.data.toList = matT u t) := rfl
  go_enter Try.func60, Try.ntmps60
  go_wp2_with fail
  refine (implMatches u t _).mono ?_
  rintro e w1 ⟨rfl, hb1⟩
  go_wp2
  go_ret
  exact ⟨by rw [← HR.out]; rfl, hb1⟩
set_option maxHeartbeats 1000000 in
theorem indexAsk_at (a : Option Addr) (cap : Nat) (l : List ByteArray) (hl : l.length ≤ 1048576) (t : ByteArray) (g : Nat) (w : World) (hg : w.cell? ⟨g, 0, none⟩ = some (.string t)) (h : ST 0 w (.slice a l.length cap) l) :
    Calls Try.prog 62 #[.slice a l.length cap, .func (.func 60) #[] #[.pointer (some ⟨g, 0, none⟩)]] w fun e w' => ∃ r : Int, e = .returned (.int .i64 r) ∧ Hid (decide (0 ≤ r) = askB l t) ∧ Below w.heap.size w w' := by
  have H : Hid (ST 0 w (.slice a l.length cap) l) := h
  have HG : Hid (w.cell? ⟨g, 0, none⟩ = some (.string t)) := hg
  have HGL : Hid (g < w.heap.size) := cell_lt hg
  clear h hg
  go_enter Try.func62, Try.ntmps62
  go_wp2
  go_loopw [8] (fun i wr => ∃ k : Nat, k ≤ l.length ∧ i = .int .i64 (k : Int) ∧ Hid (askB (l.take k) t = false) ∧ Below w.heap.size w wr) (fun i _ => l.length - (intOf i).toNat)
  case atStart => exact ⟨0, Nat.zero_le _, rfl, rfl, Below.refl _ _⟩
  case round =>
    obtain ⟨k, hk, rfl, hno, hb⟩ := hrel
    by_cases hlt : k < l.length
    · have hki : (k : Int) < (l.length : Int) := by omega
      obtain ⟨b, o, rfl, _, c0⟩ := (H.out.on (Keep.of hb)).get hlt
      unfold StrAt at c0
      rw [Nat.mul_one] at c0
      have HE : Hid (matT l[k] t = true → askB l t = true) := any_yes (fun r => matT r t) hlt
      have HN : Hid (askB (l.take (k + 1)) t = (askB (l.take k) t || matT l[k] t)) := any_take (fun r => matT r t) hlt
      obtain ⟨u, hu⟩ : ∃ u, u = l[k] := ⟨_, rfl⟩
      rw [← hu] at c0 HE HN
      have g0 := (hb.cell (p := ⟨g, 0, none⟩) HGL.out).trans HG.out
      clear hu
      go_wp2_with fail
      refine (asked_at u t g _ g0).mono ?_
      rintro e w1 ⟨rfl, hb1⟩
      have hb2 := below_over hb hb1
      clear hb1 g0 c0
      cases he : matT u t
      · have HM : Hid (askB (l.take (k + 1)) t = false) := by show _ = _; rw [HN.out, hno.out, he]; rfl
        clear HE HN hno he
        go_wp2
        go_roundw
        case rel => exact ⟨k + 1, by omega, by go_num, HM.out, hb2⟩
        case measure => simp [intOf]; omega
      · have HM : Hid (askB l t = true) := HE.out he
        clear HE HN hno he
        go_wp2
        go_ret
        exact ⟨_, rfl, by show decide (0 ≤ (k : Int)) = _; rw [HM.out]; simp, hb2⟩
    · have HM : Hid (askB l t = false) := by
        have := hno.out
        rw [List.take_of_length_le (by omega)] at this
        exact this
      clear hno
      go_wp2
      go_ret
      exact ⟨_, rfl, by show decide (0 ≤ (-1 : Int)) = _; rw [HM.out]; rfl, hb⟩
theorem containsAsk_at (a : Option Addr) (cap : Nat) (l : List ByteArray) (hl : l.length ≤ 1048576) (t : ByteArray) (g : Nat) (w : World) (hg : w.cell? ⟨g, 0, none⟩ = some (.string t)) (h : ST 0 w (.slice a l.length cap) l) :
    Calls Try.prog 59 #[.slice a l.length cap, .func (.func 60) #[] #[.pointer (some ⟨g, 0, none⟩)]] w fun e w' => e = .returned (.bool (askB l t)) ∧ Below w.heap.size w w' := by
  have H : Hid (ST 0 w (.slice a l.length cap) l) := h
  clear h
  go_enter Try.func59, Try.ntmps59
  go_wp2_with fail
  refine (indexAsk_at a cap l hl t g _ hg H.out).mono ?_
  rintro e w1 ⟨r, rfl, hr, hb⟩
  go_wp2
  go_ret
  exact ⟨by rw [← hr.out]; rfl, hb⟩
theorem rules_long (l : List ByteArray) : rulesB l = (decide ((l.length : Int) ≤ 20) && !(l.any longB)) := by
  have e1 : decide (l.length ≤ 20) = decide ((l.length : Int) ≤ 20) := by rw [decide_eq_decide]; omega
  have e2 : (l.all fun r => decide (r.size ≤ 60)) = !(l.any longB) := by
    rw [List.not_any_eq_all_not]
    congr 1
    funext r
    unfold longB
    by_cases h : r.size ≤ 60
    · simp [h]
    · simp [h]; omega
  unfold rulesB
  rw [e1, e2]
theorem areRules_at (a : Option Addr) (cap : Nat) (l : List ByteArray) (hl : l.length ≤ 1048576) (w : World) (h : ST 0 w (.slice a l.length cap) l) :
    Calls Try.prog 54 #[.slice a l.length cap] w fun e w' => e = .returned (.bool (rulesB l)) ∧ Below w.heap.size w w' := by
  have H : Hid (ST 0 w (.slice a l.length cap) l) := h
  clear h
  have HR : Hid (rulesB l = (decide ((l.length : Int) ≤ 20) && !(l.any longB))) := rules_long l
  by_cases h20 : (l.length : Int) ≤ 20
  · rw [HR.out, decide_eq_true h20, Bool.true_and]
    clear HR
    go_enter Try.func54, Try.ntmps54
    go_wp2_with fail
    refine (containsLong_at a cap l hl _ H.out).mono ?_
    rintro e w1 ⟨rfl, rfl⟩
    go_wp2
    go_ret
    exact ⟨rfl, Below.refl _ _⟩
  · rw [HR.out, decide_eq_false h20, Bool.false_and]
    clear HR
    go_enter Try.func54, Try.ntmps54
    go_wp2
    go_ret
    exact ⟨rfl, Below.refl _ _⟩
theorem isAsked_at (t : ByteArray) (a : Option Addr) (cap : Nat) (l : List ByteArray) (hl : l.length ≤ 1048576) (w : World) (h : ST 0 w (.slice a l.length cap) l) :
    Calls Try.prog 55 #[.string t, .slice a l.length cap] w fun e w' => e = .returned (.bool (askB l t)) ∧ Below w.heap.size w w' := by
  have hb0 : Below w.heap.size w (w.alloc (.cells #[.string t] 9)) := (Below.refl _ _).alloc (Nat.le_refl _) _
  have H : Hid (ST 0 (w.alloc (.cells #[.string t] 9)) (.slice a l.length cap) l) := h.on (Keep.of hb0)
  have HG : Hid ((w.alloc (.cells #[.string t] 9)).cell? ⟨w.heap.size, 0, none⟩ = some (.string t)) := by show _ = _; simp [go_sem]
  clear h
  go_enter Try.func55, Try.ntmps55
  go_wp2_with fail
  refine (containsAsk_at a cap l hl t _ _ HG.out H.out).mono ?_
  rintro e w1 ⟨rfl, hb1⟩
  go_wp2
  go_ret
  exact ⟨rfl, below_over hb0 hb1⟩
end Pg
end Go.Proofs.Ytbachkjhmenhfaa
