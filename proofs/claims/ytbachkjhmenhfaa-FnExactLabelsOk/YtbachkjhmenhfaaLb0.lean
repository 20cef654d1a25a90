/- Rows of texts, and what labels are, plainly; contracts of the program's LabelsOk. -/
import Derived.Test.YtbachkjhmenhfaaGm4
namespace Go.Proofs.Ytbachkjhmenhfaa
namespace Pg
open Go.ChangeShapes Go.WideShapes Go.ChangeAt Go.RowKit St

def StrAt (w : World) (b o : Nat) (x : ByteArray) : Prop := w.cell? ⟨b, o, none⟩ = some (.string x)
theorem StrAt.lasts (B : Nat) : Lasts B StrAt := fun _ _ _ _ _ hb hB h => (hb.cell hB (cell_lt h)).trans h
/-- A slice of texts, wherever it lies. -/
abbrev ST (B : Nat) := Arr StrAt 1 false B
theorem ST.on {B : Nat} {u w : World} {v : Value} {l : List ByteArray} (h : ST B u v l) (hb : Keep B u w) : ST B w v l := Arr.on (StrAt.lasts B) h hb
theorem ST.take {B : Nat} {w : World} {a : Option Addr} {n cap c' : Nat} {l : List ByteArray} (h : ST B w (.slice a n cap) l) (k : Nat) (hk : k ≤ l.length) : ST B w (.slice a k c') (l.take k) := by
  obtain ⟨a', cap', hv, _, h⟩ := h
  injection hv with e1 e2 e3
  subst e1
  refine ⟨a, c', by rw [List.length_take, Nat.min_eq_left hk], fun h => by simp at h, fun h0 => ?_⟩
  rw [List.length_take] at h0
  obtain ⟨b, o, ha, hB, ⟨hl, _⟩, hx⟩ := h (by omega)
  refine ⟨b, o, ha, hB, ⟨hl, fun h => by simp at h⟩, fun j x hj => ?_⟩
  rw [List.getElem?_take] at hj
  split at hj
  · exact hx j x hj
  · simp at hj

/-- Two texts alike; one in a list. -/
def eqT (s t : ByteArray) : Bool := s.data.toList == t.data.toList
def memT (s : ByteArray) (l : List ByteArray) : Bool := l.any (eqT s)
theorem eq_text (s t : ByteArray) : (s.toList == t.toList) = eqT s t := by unfold eqT; rw [Lib.toList_data, Lib.toList_data]
theorem eqT_symm (s t : ByteArray) : eqT s t = eqT t s := by
  unfold eqT
  rw [Bool.eq_iff_iff, beq_iff_eq, beq_iff_eq]
  exact ⟨Eq.symm, Eq.symm⟩
theorem memT_take {s : ByteArray} {l : List ByteArray} {k : Nat} (h : k < l.length) : memT s (l.take (k + 1)) = (memT s (l.take k) || eqT s l[k]) := by
  unfold memT
  rw [List.take_succ_eq_append_getElem h, List.any_append]
  simp
theorem memT_yes {s : ByteArray} {l : List ByteArray} {k : Nat} (h : k < l.length) (he : eqT s l[k] = true) : memT s l = true := by
  unfold memT
  rw [List.any_eq_true]
  exact ⟨l[k], List.getElem_mem h, he⟩
def okS (l : List ByteArray) (i : Nat) : Bool := match l[i]? with | some s => decide (1 ≤ s.size) && decide (s.size ≤ 30) && !memT s (l.take i) | none => true
def labB (l : List ByteArray) : Bool := (List.range l.length).all (okS l)
def labsB (c m : List ByteArray) : Bool := decide (1 ≤ c.length) && decide (c.length ≤ 6) && decide (m.length = 20) && labB c && labB m
theorem okS_at {l : List ByteArray} {i : Nat} (h : i < l.length) : okS l i = (decide (1 ≤ l[i].size) && decide (l[i].size ≤ 30) && !memT l[i] (l.take i)) := by
  unfold okS
  rw [List.getElem?_eq_getElem h]
theorem lab_no {l : List ByteArray} {i : Nat} (h : i < l.length) (hf : okS l i = false) : labB l = false := by
  unfold labB
  rw [List.all_eq_false]
  exact ⟨i, List.mem_range.2 h, by simp [hf]⟩
theorem lab_next {l : List ByteArray} {k : Nat} (h : (List.range k).all (okS l) = true) (hk : okS l k = true) : (List.range (k + 1)).all (okS l) = true := by
  rw [List.range_succ, List.all_append, h]; simp [hk]

set_option maxHeartbeats 1000000 in
theorem indexS_at (a : Option Addr) (cap : Nat) (l : List ByteArray) (hl : l.length ≤ 1048576) (s : ByteArray) (w : World) (h : ST 0 w (.slice a l.length cap) l) :
    Calls Try.prog 61 #[.slice a l.length cap, .string s] w fun e w' => ∃ r : Int, e = .returned (.int .i64 r) ∧ Hid (decide (0 ≤ r) = memT s l) ∧ w' = w := by
  have H : Hid (ST 0 w (.slice a l.length cap) l) := h
  clear h
  go_enter Try.func61, Try.ntmps61
  go_wp2
  go_loopw [8] (fun i wr => ∃ k : Nat, k ≤ l.length ∧ i = .int .i64 (k : Int) ∧ Hid (memT s (l.take k) = false) ∧ wr = w) (fun i _ => l.length - (intOf i).toNat)
  case atStart => exact ⟨0, Nat.zero_le _, rfl, by show memT _ _ = _; simp [memT], rfl⟩
  case round =>
    obtain ⟨k, hk, rfl, hno, rfl⟩ := hrel
    by_cases hlt : k < l.length
    · have hki : (k : Int) < (l.length : Int) := by omega
      obtain ⟨b, o, rfl, _, c0⟩ := H.out.get hlt
      unfold StrAt at c0
      rw [Nat.mul_one] at c0
      have HE : Hid (eqT s l[k] = true → memT s l = true) := fun h => memT_yes hlt h
      have HN : Hid (memT s (l.take (k + 1)) = (memT s (l.take k) || eqT s l[k])) := memT_take hlt
      have hq := eq_text s l[k]
      generalize l[k] = t at *
      cases he : eqT s t
      · rw [he] at hq
        have HM : Hid (memT s (l.take (k + 1)) = false) := by show _ = _; rw [HN.out, hno.out, he]; rfl
        clear HE HN hno he
        go_wp2
        go_roundw
        case rel => exact ⟨k + 1, by omega, by go_num, HM.out, by simp⟩
        case measure => simp [intOf]; omega
      · rw [he] at hq
        have HM : Hid (memT s l = true) := HE.out he
        clear HE HN hno he
        go_wp2
        go_ret
        exact ⟨_, rfl, by show decide (0 ≤ (k : Int)) = _; rw [HM.out]; simp, rfl⟩
    · have HM : Hid (memT s l = false) := by
        have := hno.out
        rw [List.take_of_length_le (by omega)] at this
        exact this
      clear hno
      go_wp2
      go_ret
      exact ⟨_, rfl, by show decide (0 ≤ (-1 : Int)) = _; rw [HM.out]; rfl, rfl⟩
theorem containsS_at (a : Option Addr) (cap : Nat) (l : List ByteArray) (hl : l.length ≤ 1048576) (s : ByteArray) (w : World) (h : ST 0 w (.slice a l.length cap) l) :
    Calls Try.prog 57 #[.slice a l.length cap, .string s] w fun e w' => e = .returned (.bool (memT s l)) ∧ w' = w := by
  have H : Hid (ST 0 w (.slice a l.length cap) l) := h
  clear h
  go_enter Try.func57, Try.ntmps57
  go_wp2_with fail
  refine (indexS_at a cap l hl s _ H.out).mono ?_
  rintro e w1 ⟨r, rfl, hr, rfl⟩
  go_wp2
  go_ret
  exact ⟨by rw [hr.out]; rfl, rfl⟩

set_option maxHeartbeats 1000000 in
theorem areLabels_at (a : Option Addr) (cap : Nat) (l : List ByteArray) (hl : l.length ≤ 1048576) (hc : l.length ≤ cap) (w : World) (h : ST 0 w (.slice a l.length cap) l) :
    Calls Try.prog 48 #[.slice a l.length cap] w fun e w' => e = .returned (.bool (labB l)) ∧ w' = w := by
  have H : Hid (ST 0 w (.slice a l.length cap) l) := h
  clear h
  go_enter Try.func48, Try.ntmps48
  go_wp2
  go_loopw [7] (fun i wr => ∃ k : Nat, k ≤ l.length ∧ i = .int .i64 (k : Int) ∧ Hid ((List.range k).all (okS l) = true) ∧ wr = w) (fun i _ => l.length - (intOf i).toNat)
  case atStart => exact ⟨0, Nat.zero_le _, rfl, rfl, rfl⟩
  case round =>
    obtain ⟨k, hk, rfl, hall, rfl⟩ := hrel
    by_cases hlt : k < l.length
    · have hki : (k : Int) < (l.length : Int) := by omega
      have hkc : (k : Int) ≤ (cap : Int) := by omega
      have HT : Hid (∀ c', ST 0 wr (.slice a k c') (l.take k)) := fun c' => H.out.take k (by omega)
      obtain ⟨b, o, rfl, _, c0⟩ := H.out.get hlt
      unfold StrAt at c0
      rw [Nat.mul_one] at c0
      have HO : Hid (okS l k = (decide (1 ≤ l[k].size) && decide (l[k].size ≤ 30) && !memT l[k] (l.take k))) := okS_at hlt
      have HNX : Hid (okS l k = true → (List.range (k + 1)).all (okS l) = true) := lab_next hall.out
      have HNO : Hid (okS l k = false → labB l = false) := lab_no hlt
      have HLT : Hid ((l.take k).length = k) := by show _ = _; rw [List.length_take]; omega
      generalize l[k] = t at *
      clear hall
      by_cases h1 : t.size = 0
      · have HR : Hid (labB l = false) := HNO.out (by rw [HO.out, h1]; rfl)
        have h1i : (t.size : Int) = 0 := by omega
        clear HO HNX HNO HT HLT h1
        go_wp2
        go_ret
        exact ⟨by rw [HR.out]; rfl, rfl⟩
      · by_cases h2 : 30 < t.size
        · have HR : Hid (labB l = false) := HNO.out (by rw [HO.out, decide_eq_false (p := t.size ≤ 30) (by omega)]; simp)
          have h1i : ((t.size : Int) == 0) = false := by rw [beq_eq_false_iff_ne]; omega
          have h2i : (30 : Int) < (t.size : Int) := by omega
          clear HO HNX HNO HT HLT
          go_wp2
          go_ret
          exact ⟨by rw [HR.out]; rfl, rfl⟩
        · have h1i : ((t.size : Int) == 0) = false := by rw [beq_eq_false_iff_ne]; omega
          have h2i : ¬ (30 : Int) < (t.size : Int) := by omega
          have HV : Hid (okS l k = !memT t (l.take k)) := by
            show _ = _
            rw [HO.out, decide_eq_true (p := 1 ≤ t.size) (by omega), decide_eq_true (p := t.size ≤ 30) (by omega)]; rfl
          clear HO
          go_wp2_with fail
          have hC := containsS_at (some ⟨b, o, none⟩) cap (l.take k) (by rw [HLT.out]; omega) t wr (by rw [HLT.out]; exact HT.out cap)
          rw [HLT.out] at hC
          refine hC.mono ?_
          rintro e w1 ⟨rfl, rfl⟩
          clear HT HLT hC
          cases hm : memT t (l.take k)
          · have HX : Hid ((List.range (k + 1)).all (okS l) = true) := HNX.out (by rw [HV.out, hm]; rfl)
            clear HNX HNO HV hm
            go_wp2
            go_roundw
            case rel => exact ⟨k + 1, by omega, by go_num, HX.out, by simp⟩
            case measure => simp [intOf]; omega
          · have HX : Hid (labB l = false) := HNO.out (by rw [HV.out, hm]; rfl)
            clear HNX HNO HV hm
            go_wp2
            go_ret
            exact ⟨by rw [HX.out]; rfl, rfl⟩
    · have HR : Hid (labB l = true) := by
        obtain rfl : k = l.length := by omega
        exact hall.out
      clear hall
      go_wp2
      go_ret
      exact ⟨by rw [HR.out]; rfl, rfl⟩

/-- A row of labels came with its room. -/
theorem implLabels (a1 a2 : Option Addr) (c1 c2 : Nat) (l1 l2 : List ByteArray) (h1 : l1.length ≤ 1048576) (h2 : l2.length ≤ 1048576) (k1 : l1.length ≤ c1) (k2 : l2.length ≤ c2) (w : World) (hs1 : ST 0 w (.slice a1 l1.length c1) l1) (hs2 : ST 0 w (.slice a2 l2.length c2) l2) :
    Calls Try.prog 20 #[.agg #[.slice a1 l1.length c1, .slice a2 l2.length c2]] w fun e w' => e = .returned (.bool (labsB l1 l2)) ∧ Below w.heap.size w w' := by
  have hbl : Below w.heap.size w (w.alloc (.cells #[.slice a1 l1.length c1, .slice a2 l2.length c2] 29)) := (Below.refl _ _).alloc (Nat.le_refl _) _
  have H1 : Hid (ST 0 (w.alloc (.cells #[.slice a1 l1.length c1, .slice a2 l2.length c2] 29)) (.slice a1 l1.length c1) l1) := hs1.on (Keep.of hbl)
  have H2 : Hid (ST 0 (w.alloc (.cells #[.slice a1 l1.length c1, .slice a2 l2.length c2] 29)) (.slice a2 l2.length c2) l2) := hs2.on (Keep.of hbl)
  clear hs1 hs2
  by_cases z1 : l1.length = 0
  · have HR : Hid (labsB l1 l2 = false) := by show _ = _; unfold labsB; rw [decide_eq_false (p := 1 ≤ l1.length) (by omega)]; rfl
    have z1i : ((l1.length : Int) == 0) = true := by rw [beq_iff_eq]; omega
    clear H1 H2 z1
    rw [HR.out]
    go_enter Try.func20, Try.ntmps20
    go_wp2
    go_ret
    exact ⟨rfl, hbl⟩
  · have z1i : ((l1.length : Int) == 0) = false := by rw [beq_eq_false_iff_ne]; omega
    by_cases z2 : 6 < l1.length
    · have HR : Hid (labsB l1 l2 = false) := by show _ = _; unfold labsB; rw [decide_eq_false (p := l1.length ≤ 6) (by omega), Bool.and_false]; rfl
      have z2i : (6 : Int) < (l1.length : Int) := by omega
      clear H1 H2
      rw [HR.out]
      go_enter Try.func20, Try.ntmps20
      go_wp2
      go_ret
      exact ⟨rfl, hbl⟩
    · have z2i : ¬ (6 : Int) < (l1.length : Int) := by omega
      by_cases z3 : l2.length = 20
      · have z3i : ((l2.length : Int) != 20) = false := by rw [bne_eq_false_iff_eq]; omega
        have HR : Hid (labsB l1 l2 = (labB l1 && labB l2)) := by
          show _ = _; unfold labsB
          rw [decide_eq_true (p := 1 ≤ l1.length) (by omega), decide_eq_true (p := l1.length ≤ 6) (by omega), decide_eq_true z3]; rfl
        rw [HR.out]
        clear HR z3
        go_enter Try.func20, Try.ntmps20
        go_wp2_with fail
        refine (areLabels_at a1 c1 l1 h1 k1 _ H1.out).mono ?_
        rintro e w1 ⟨rfl, rfl⟩
        cases hq : labB l1
        · go_wp2
          go_ret
          exact ⟨by rw [hq]; rfl, hbl⟩
        · go_wp2_with fail
          refine (areLabels_at a2 c2 l2 h2 k2 _ H2.out).mono ?_
          rintro e w1 ⟨rfl, rfl⟩
          go_wp2
          go_ret
          exact ⟨by rw [hq]; rfl, hbl⟩
      · have HR : Hid (labsB l1 l2 = false) := by show _ = _; unfold labsB; rw [decide_eq_false z3]; simp
        have z3i : ((l2.length : Int) != 20) = true := by rw [bne_iff_ne]; omega
        clear H1 H2
        rw [HR.out]
        go_enter Try.func20, Try.ntmps20
        go_wp2
        go_ret
        exact ⟨rfl, hbl⟩
end Pg
end Go.Proofs.Ytbachkjhmenhfaa
