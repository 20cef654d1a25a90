/- Which machines are right: plainly, and the program's functions. -/
import Derived.Test.YtobaeenngffndaaMv3
import Derived.BigQuiet
namespace Go.Proofs.Ytobaeenngffndaa
namespace Pg
open Go.ChangeShapes Go.WideShapes Go.ChangeAt Go.RowKit St Wd

def valB (x : Vl) : Bool := if x.1 = 1 then okB x.2 else if x.1 = 2 then decide (0 ≤ x.2) else decide (x.1 = 3) && decide (x.2 = 0)
def obB (x : Ob) : Bool := decide (x.flds.length ≤ 24) && x.flds.all valB
def frB (x : Fr) : Bool := decide (x.stk.length ≤ 8) && decide (x.loc.length = 8) && x.stk.all valB && x.loc.all valB
def machB (m : Mc) : Bool := decide (0 ≤ m.fin) && decide (m.fin ≤ 6) && !(decide (m.fin = 0) && decide (m.frames.length = 0)) && decide (m.heap.length ≤ 50) && decide (m.frames.length ≤ 30) && decide (m.said.length ≤ 20000) && m.heap.all obB && m.frames.all frB && m.said.all okB
theorem retO {p q : Bool} (h : p = q) : Ending.returned (.bool p) = .returned (.bool q) := by rw [h]
theorem implWordOkB (n : Int) (w : World) : Calls Try.prog 33 #[.int .i64 n] w fun e w' => e = .returned (.bool (okB n)) ∧ Below w.heap.size w w' :=
  (implWordOk n w).mono fun _ _ ⟨h, e⟩ => ⟨h, e ▸ Below.refl _ _⟩
theorem all_no {α : Type} {l : List α} {p : α → Bool} {k : Nat} (hk : k < l.length) (h : p l[k] = false) : l.all p = false := by
  cases h2 : l.all p
  · rfl
  · rw [List.all_eq_true.1 h2 _ (List.getElem_mem hk)] at h; cases h
theorem all_yes {α : Type} {l : List α} {p : α → Bool} {k : Nat} (hk : k < l.length) (ha : (l.take k).all p = true) (h : p l[k] = true) : (l.take (k + 1)).all p = true := by
  rw [List.take_succ_eq_append_getElem hk, List.all_append, ha]
  simp [h]
theorem all_end {α : Type} {l : List α} {p : α → Bool} {k : Nat} (hk : ¬ k < l.length) (ha : (l.take k).all p = true) : l.all p = true := by
  rw [List.take_of_length_le (by omega)] at ha
  exact ha

set_option maxHeartbeats 800000 in
theorem isValue_at (x : Vl) (w : World) :
    Calls Try.prog 58 #[.agg #[.int .i64 x.1, .int .i64 x.2]] w fun e w' => e = .returned (.bool (valB x)) ∧ Below w.heap.size w w' := by
  obtain ⟨k, n⟩ := x
  have hxc : k = 1 ∨ k = 2 ∨ k = 3 ∨ (¬ k = 1 ∧ ¬ k = 2 ∧ ¬ k = 3) := by omega
  rcases hxc with rfl | rfl | rfl | ⟨h1, h2, h3⟩
  · have HV : Hid (valB (1, n) = okB n) := by show _ = _; simp [valB]
    go_enter Try.func58, Try.ntmps58
    go_wp2_with fail
    refine (implWordOk n _).mono ?_
    rintro e w1 ⟨rfl, rfl⟩
    go_wp2
    go_ret
    exact ⟨retO HV.out.symm, by go_grown⟩
  · have HV : Hid (valB (2, n) = decide (0 ≤ n)) := by show _ = _; simp [valB]
    go_enter Try.func58, Try.ntmps58
    go_wp2
    go_ret
    exact ⟨retO HV.out.symm, by go_grown⟩
  · have HV : Hid (valB (3, n) = decide (n = 0)) := by show _ = _; simp [valB]
    go_enter Try.func58, Try.ntmps58
    go_wp2
    go_ret
    exact ⟨retO HV.out.symm, by go_grown⟩
  · have HV : Hid (valB (k, n) = false) := by show _ = _; simp [valB, h1, h2, h3]
    go_enter Try.func58, Try.ntmps58
    go_wp2
    go_ret
    exact ⟨retO HV.out.symm, by go_grown⟩
set_option maxRecDepth 100000 in
set_option maxHeartbeats 1000000 in
theorem areAllValue {f : Bool} (B : Nat) (a : Option Addr) (cap : Nat) (ms : List Vl) (hn : ms.length ≤ 1048576) (w : World) (hm : SV f B w (.slice a ms.length cap) ms) :
    Calls Try.prog 57 #[.slice a ms.length cap, .func (.func 58) #[] #[]] w fun e w' => e = .returned (.bool (ms.all valB)) ∧ Below w.heap.size w w' := by
  have HM : Hid (SV f B w (.slice a ms.length cap) ms) := hm
  clear hm
  go_enter Try.func57, Try.ntmps57
  go_wp2
  go_loopw [9] (fun i wr => ∃ k : Nat, k ≤ ms.length ∧ i = .int .i64 k ∧ Hid ((ms.take k).all valB = true) ∧ Below w.heap.size w wr) (fun i _ => ms.length - (intOf i).toNat)
  case atStart => exact ⟨0, Nat.zero_le _, rfl, rfl, Below.refl _ _⟩
  case round =>
    obtain ⟨k, hk, rfl, hall, hb⟩ := hrel
    by_cases hlt : k < ms.length
    · obtain ⟨b, o, rfl, _, d0, d1⟩ := (SV.on HM.out (Keep.of hb)).get hlt
      have HNO : Hid (valB ms[k] = false → ms.all valB = false) := all_no hlt
      have HYE : Hid (valB ms[k] = true → (ms.take (k + 1)).all valB = true) := all_yes hlt hall.out
      generalize ms[k] = m at *
      have hki : (k : Int) < (ms.length : Int) := by omega
      clear hall
      go_wp2_with fail
      refine (isValue_at m _).mono ?_
      rintro e w1 ⟨rfl, hb1⟩
      have hw1 : Below w.heap.size w w1 := below_over (hb.alloc hb.size _) hb1
      clear hb1 hb d0 d1
      cases hv : valB m
      · have HN : Hid (ms.all valB = false) := HNO.out hv
        go_wp2
        go_ret
        exact ⟨retO HN.out.symm, hw1⟩
      · have HY : Hid ((ms.take (k + 1)).all valB = true) := HYE.out hv
        go_wp2
        go_roundw
        case rel => exact ⟨k + 1, by omega, by go_num, HY.out, hw1⟩
        case measure => simp [intOf]; omega
    · have HN : Hid (ms.all valB = true) := all_end hlt hall.out
      go_wp2
      go_ret
      exact ⟨retO HN.out.symm, hb⟩
set_option maxRecDepth 100000 in
set_option maxHeartbeats 800000 in
theorem isObject_at {f : Bool} (B : Nat) (x : Ob) (a : Option Addr) (cap : Nat) (hs : SmallO1 x) (w : World) (hm : SV f B w (.slice a x.flds.length cap) x.flds) :
    Calls Try.prog 29 #[.agg #[.int .i64 x.cls, .slice a x.flds.length cap]] w fun e w' => e = .returned (.bool (obB x)) ∧ Below w.heap.size w w' := by
  have HM : Hid (SV f B w (.slice a x.flds.length cap) x.flds) := hm
  have hs : x.flds.length ≤ 1048576 := hs
  clear hm
  by_cases h : (x.flds.length : Int) ≤ 24
  · have HB : Hid (obB x = x.flds.all valB) := by
      show _ = _
      have : x.flds.length ≤ 24 := by omega
      simp [obB, this]
    go_enter Try.func29, Try.ntmps29
    go_wp2_with fail
    refine (areAllValue B a cap x.flds hs _ (SV.on HM.out (Keep.of (by go_grown)))).mono ?_
    rintro e w1 ⟨rfl, hb1⟩
    have hw1 : Below w.heap.size w w1 := below_over (by go_grown) hb1
    clear hb1
    go_wp2
    go_ret
    exact ⟨retO HB.out.symm, hw1⟩
  · have HB : Hid (obB x = false) := by
      show _ = _
      have : ¬ x.flds.length ≤ 24 := by omega
      simp [obB, this]
    go_enter Try.func29, Try.ntmps29
    go_wp2
    go_ret
    exact ⟨retO HB.out.symm, by go_grown⟩
set_option maxRecDepth 100000 in
set_option maxHeartbeats 1000000 in
theorem areAllObject {f : Bool} (B : Nat) (a : Option Addr) (cap : Nat) (ms : List Ob) (hn : SmallO ms) (w : World) (hm : SO f B w (.slice a ms.length cap) ms) :
    Calls Try.prog 28 #[.slice a ms.length cap, .func (.func 29) #[] #[]] w fun e w' => e = .returned (.bool (ms.all obB)) ∧ Below w.heap.size w w' := by
  have HM : Hid (SO f B w (.slice a ms.length cap) ms) := hm
  have HS : Hid (∀ m ∈ ms, SmallO1 m) := hn.2
  have hn := hn.1
  clear hm
  go_enter Try.func28, Try.ntmps28
  go_wp2
  go_loopw [9] (fun i wr => ∃ k : Nat, k ≤ ms.length ∧ i = .int .i64 k ∧ Hid ((ms.take k).all obB = true) ∧ Below w.heap.size w wr) (fun i _ => ms.length - (intOf i).toNat)
  case atStart => exact ⟨0, Nat.zero_le _, rfl, rfl, Below.refl _ _⟩
  case round =>
    obtain ⟨k, hk, rfl, hall, hb⟩ := hrel
    by_cases hlt : k < ms.length
    · obtain ⟨b, o, rfl, _, v1, d0, d1, hv⟩ := (SO.on HM.out (Keep.of hb)).get hlt
      obtain ⟨a1, c1, rfl⟩ := hv.form
      have HV : Hid (SV f B wr (.slice a1 ms[k].flds.length c1) ms[k].flds) := hv
      clear hv
      have HNO : Hid (obB ms[k] = false → ms.all obB = false) := all_no hlt
      have HYE : Hid (obB ms[k] = true → (ms.take (k + 1)).all obB = true) := all_yes hlt hall.out
      have HSM : Hid (SmallO1 ms[k]) := HS.out _ (List.getElem_mem hlt)
      generalize ms[k] = m at *
      have hki : (k : Int) < (ms.length : Int) := by omega
      clear hall
      go_wp2_with fail
      refine (isObject_at B m a1 c1 HSM.out _ (SV.on HV.out (Keep.of (by go_grown)))).mono ?_
      rintro e w1 ⟨rfl, hb1⟩
      have hw1 : Below w.heap.size w w1 := below_over (hb.alloc hb.size _) hb1
      clear hb1 hb d0 d1 HV HSM
      cases hv : obB m
      · have HN : Hid (ms.all obB = false) := HNO.out hv
        go_wp2
        go_ret
        exact ⟨retO HN.out.symm, hw1⟩
      · have HY : Hid ((ms.take (k + 1)).all obB = true) := HYE.out hv
        go_wp2
        go_roundw
        case rel => exact ⟨k + 1, by omega, by go_num, HY.out, hw1⟩
        case measure => simp [intOf]; omega
    · have HN : Hid (ms.all obB = true) := all_end hlt hall.out
      go_wp2
      go_ret
      exact ⟨retO HN.out.symm, hb⟩
set_option maxRecDepth 100000 in
set_option maxHeartbeats 800000 in
theorem isFrame_at {f : Bool} (B : Nat) (x : Fr) (a1 a2 : Option Addr) (c1 c2 : Nat) (hs : SmallF1 x) (w : World) (hm : FV f B w (.slice a1 x.stk.length c1) (.slice a2 x.loc.length c2) x) :
    Calls Try.prog 31 #[.agg #[.int .i64 x.cls, .int .i64 x.name, .int .i64 x.pos, .slice a1 x.stk.length c1, .slice a2 x.loc.length c2]] w fun e w' => e = .returned (.bool (frB x)) ∧ Below w.heap.size w w' := by
  have HM : Hid (FV f B w (.slice a1 x.stk.length c1) (.slice a2 x.loc.length c2) x) := hm
  have hs1 : x.stk.length ≤ 1048576 := hs.1
  have hs2 : x.loc.length ≤ 1048576 := hs.2
  clear hm
  by_cases h : (x.stk.length : Int) ≤ 8
  · by_cases h2 : (x.loc.length : Int) = 8
    · have HB : Hid (frB x = (x.stk.all valB && x.loc.all valB)) := by
        show _ = _
        have e1 : x.stk.length ≤ 8 := by omega
        have e2 : x.loc.length = 8 := by omega
        simp [frB, e1, e2]
      have h2' : ((x.loc.length : Int) != 8) = false := by simp [h2]
      have HE : Hid ((x.loc.length : Int) = 8) := h2
      clear h2
      go_enter Try.func31, Try.ntmps31
      go_wp2_with fail
      refine (areAllValue B a1 c1 x.stk hs1 _ (SV.on HM.out.1 (Keep.of (by go_grown)))).mono ?_
      rintro e w1 ⟨rfl, hb1⟩
      have hw1 : Below w.heap.size w w1 := below_over (by go_grown) hb1
      have A1 : Hid (Cells w1 w.heap.size [.int .i64 x.cls, .int .i64 x.name, .int .i64 x.pos, .slice a1 x.stk.length c1, .slice a2 x.loc.length c2]) := (Cells.new w _ rfl _ _).on hb1
      have r4 := A1.out.g4.1
      clear hb1
      cases hq : x.stk.all valB
      · go_wp2
        go_ret
        exact ⟨retO (by rw [HB.out, hq]; rfl), hw1⟩
      · have HQ : Hid (x.stk.all valB = true) := hq
        clear hq
        go_wp2_with fail
        refine (areAllValue B a2 c2 x.loc hs2 _ (SV.on HM.out.2 (Keep.of hw1))).mono ?_
        rintro e w2 ⟨rfl, hb2⟩
        have hw2 : Below w.heap.size w w2 := below_over hw1 hb2
        clear hb2
        go_wp2
        go_ret
        exact ⟨retO (by rw [HB.out, HQ.out]; rfl), hw2⟩
    · have HB : Hid (frB x = false) := by
        show _ = _
        have : ¬ x.loc.length = 8 := by omega
        simp [frB, this]
      have h2' : ((x.loc.length : Int) != 8) = true := by simp; omega
      go_enter Try.func31, Try.ntmps31
      go_wp2
      go_ret
      exact ⟨retO HB.out.symm, by go_grown⟩
  · have HB : Hid (frB x = false) := by
      show _ = _
      have : ¬ x.stk.length ≤ 8 := by omega
      simp [frB, this]
    go_enter Try.func31, Try.ntmps31
    go_wp2
    go_ret
    exact ⟨retO HB.out.symm, by go_grown⟩
set_option maxRecDepth 100000 in
set_option maxHeartbeats 1000000 in
theorem areAllFrame {f : Bool} (B : Nat) (a : Option Addr) (cap : Nat) (ms : List Fr) (hn : SmallF ms) (w : World) (hm : SF f B w (.slice a ms.length cap) ms) :
    Calls Try.prog 30 #[.slice a ms.length cap, .func (.func 31) #[] #[]] w fun e w' => e = .returned (.bool (ms.all frB)) ∧ Below w.heap.size w w' := by
  have HM : Hid (SF f B w (.slice a ms.length cap) ms) := hm
  have HS : Hid (∀ m ∈ ms, SmallF1 m) := hn.2
  have hn := hn.1
  clear hm
  go_enter Try.func30, Try.ntmps30
  go_wp2
  go_loopw [9] (fun i wr => ∃ k : Nat, k ≤ ms.length ∧ i = .int .i64 k ∧ Hid ((ms.take k).all frB = true) ∧ Below w.heap.size w wr) (fun i _ => ms.length - (intOf i).toNat)
  case atStart => exact ⟨0, Nat.zero_le _, rfl, rfl, Below.refl _ _⟩
  case round =>
    obtain ⟨k, hk, rfl, hall, hb⟩ := hrel
    by_cases hlt : k < ms.length
    · obtain ⟨b, o, rfl, _, v1, v2, d0, d1, d2, d3, d4, hv⟩ := (SF.on HM.out (Keep.of hb)).get hlt
      obtain ⟨a1, c1, rfl⟩ := hv.1.form
      obtain ⟨a2, c2, rfl⟩ := hv.2.form
      have HV : Hid (FV f B wr (.slice a1 ms[k].stk.length c1) (.slice a2 ms[k].loc.length c2) ms[k]) := hv
      clear hv
      have HNO : Hid (frB ms[k] = false → ms.all frB = false) := all_no hlt
      have HYE : Hid (frB ms[k] = true → (ms.take (k + 1)).all frB = true) := all_yes hlt hall.out
      have HSM : Hid (SmallF1 ms[k]) := HS.out _ (List.getElem_mem hlt)
      generalize ms[k] = m at *
      have hki : (k : Int) < (ms.length : Int) := by omega
      clear hall
      go_wp2_with fail
      refine (isFrame_at B m a1 a2 c1 c2 HSM.out _ (HV.out.on (Keep.of (by go_grown)))).mono ?_
      rintro e w1 ⟨rfl, hb1⟩
      have hw1 : Below w.heap.size w w1 := below_over (hb.alloc hb.size _) hb1
      clear hb1 hb d0 d1 d2 d3 d4 HV HSM
      cases hv : frB m
      · have HN : Hid (ms.all frB = false) := HNO.out hv
        go_wp2
        go_ret
        exact ⟨retO HN.out.symm, hw1⟩
      · have HY : Hid ((ms.take (k + 1)).all frB = true) := HYE.out hv
        go_wp2
        go_roundw
        case rel => exact ⟨k + 1, by omega, by go_num, HY.out, hw1⟩
        case measure => simp [intOf]; omega
    · have HN : Hid (ms.all frB = true) := all_end hlt hall.out
      go_wp2
      go_ret
      exact ⟨retO HN.out.symm, hb⟩
set_option maxRecDepth 100000 in
set_option maxHeartbeats 1000000 in
theorem areAllInt64 {f : Bool} (B : Nat) (a : Option Addr) (cap : Nat) (ms : List Int) (hn : ms.length ≤ 1048576) (w : World) (hm : SI f B w (.slice a ms.length cap) ms) :
    Calls Try.prog 32 #[.slice a ms.length cap, .func (.func 33) #[] #[]] w fun e w' => e = .returned (.bool (ms.all okB)) ∧ Below w.heap.size w w' := by
  have HM : Hid (SI f B w (.slice a ms.length cap) ms) := hm
  clear hm
  go_enter Try.func32, Try.ntmps32
  go_wp2
  go_loopw [9] (fun i wr => ∃ k : Nat, k ≤ ms.length ∧ i = .int .i64 k ∧ Hid ((ms.take k).all okB = true) ∧ Below w.heap.size w wr) (fun i _ => ms.length - (intOf i).toNat)
  case atStart => exact ⟨0, Nat.zero_le _, rfl, rfl, Below.refl _ _⟩
  case round =>
    obtain ⟨k, hk, rfl, hall, hb⟩ := hrel
    by_cases hlt : k < ms.length
    · obtain ⟨b, o, rfl, _, a0⟩ := (SI.on HM.out (Keep.of hb)).get hlt
      have d0 : wr.cell? ⟨b, o + k, none⟩ = some (.int .i64 ms[k]) := by simpa [IntAt] using a0
      clear a0
      have HNO : Hid (okB ms[k] = false → ms.all okB = false) := all_no hlt
      have HYE : Hid (okB ms[k] = true → (ms.take (k + 1)).all okB = true) := all_yes hlt hall.out
      generalize ms[k] = m at *
      have hki : (k : Int) < (ms.length : Int) := by omega
      clear hall
      go_wp2_with fail
      refine (implWordOkB m _).mono ?_
      rintro e w1 ⟨rfl, hb1⟩
      have hw1 : Below w.heap.size w w1 := below_over hb hb1
      clear hb1 hb d0
      cases hv : okB m
      · have HN : Hid (ms.all okB = false) := HNO.out hv
        go_wp2
        go_ret
        exact ⟨retO HN.out.symm, hw1⟩
      · have HY : Hid ((ms.take (k + 1)).all okB = true) := HYE.out hv
        go_wp2
        go_roundw
        case rel => exact ⟨k + 1, by omega, by go_num, HY.out, hw1⟩
        case measure => simp [intOf]; omega
    · have HN : Hid (ms.all okB = true) := all_end hlt hall.out
      go_wp2
      go_ret
      exact ⟨retO HN.out.symm, hb⟩
end Pg
end Go.Proofs.Ytobaeenngffndaa
