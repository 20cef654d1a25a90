/- Contracts of the laws' own functions on rows of texts and on labels. -/
import Derived.Test.YtbachkjhmenhfaaLb0
import Derived.Test.YtbachkjhmenhfaaPg2
import Derived.Deep.QuietTactic
import Derived.BigQuiet
namespace Go.Proofs.Ytbachkjhmenhfaa
namespace Pg
open Go.ChangeShapes Go.WideShapes Go.ChangeAt Go.RowKit St

def sumT (l : List ByteArray) : Nat := (l.map (·.size)).sum
def bulkT (l : List ByteArray) : Nat := l.length + sumT l
theorem sumT_take {l : List ByteArray} {k : Nat} (h : k < l.length) : sumT (l.take (k + 1)) = sumT (l.take k) + l[k].size := by
  rw [List.take_succ_eq_append_getElem h]; unfold sumT; rw [List.map_append, List.sum_append]; simp
theorem sumT_le (l : List ByteArray) (k : Nat) : sumT (l.take k) ≤ sumT l := by
  have : sumT l = sumT (l.take k) + sumT (l.drop k) := by
    unfold sumT
    rw [← List.sum_append, ← List.map_append, List.take_append_drop]
  omega
def SaneT (l : List ByteArray) : Prop := l.length ≤ 9223372036854775807 ∧ ∀ s ∈ l, s.size ≤ maxLen

set_option maxHeartbeats 1000000 in
theorem szStrs (a : Option Addr) (cap : Nat) (l : List ByteArray) (hs : SaneT l) (left : Int) (h0 : 0 ≤ left) (h1 : left ≤ 1048576) (w : World) (h : ST 0 w (.slice a l.length cap) l) :
    Calls Try.prog 27 #[.slice a l.length cap, .int .i64 left] w fun e w' => e = .returned (.int .i64 (szR (bulkT l) left)) ∧ w' = w := by
  have H : Hid (ST 0 w (.slice a l.length cap) l) := h
  have HS : Hid (SaneT l) := hs
  have hl := hs.1
  clear h hs
  by_cases hn : (l.length : Int) ≤ left
  · have hn' : ¬ left - (l.length : Int) < 0 := by omega
    go_enter Try.func27, Try.ntmps27
    go_wp2
    go_loopw [1, 5] (fun v i wr => ∃ (k : Nat) (m : Int), k ≤ l.length ∧ v = .int .i64 m ∧ i = .int .i64 (k : Int) ∧ 0 ≤ m ∧ m ≤ 1048576 ∧ Hid (m = left - l.length - sumT (l.take k)) ∧ wr = w) (fun _ i _ => l.length - (intOf i).toNat)
    case atStart => exact ⟨0, _, Nat.zero_le _, rfl, rfl, by omega, by omega, by show _ = _; simp [sumT], rfl⟩
    case round =>
      obtain ⟨k, m, hk, rfl, rfl, hm0, hm1, hm, rfl⟩ := hrel
      by_cases hlt : k < l.length
      · have hki : (k : Int) < (l.length : Int) := by omega
        obtain ⟨b, o, rfl, _, c0⟩ := H.out.get hlt
        unfold StrAt at c0
        rw [Nat.mul_one] at c0
        have ht := HS.out.2 _ (List.getElem_mem hlt)
        have HT : Hid (sumT (l.take (k + 1)) = sumT (l.take k) + l[k].size) := sumT_take hlt
        have HLE := sumT_le l (k + 1)
        rw [HT.out] at HLE
        generalize l[k] = t at *
        unfold maxLen at ht
        by_cases hc : m - (t.size : Int) < 0
        · have HR : Hid (szR (bulkT l) left = -1) := szR_no (by have := hm.out; unfold bulkT; omega)
          clear HT HLE hm
          go_wp2
          go_ret
          exact ⟨by rw [HR.out]; rfl, rfl⟩
        · have HM : Hid (m - (t.size : Int) = left - l.length - sumT (l.take (k + 1))) := by
            have e1 := hm.out
            have e2 := HT.out
            show _ = _; omega
          clear HT HLE hm
          go_wp2
          go_roundw
          case rel => exact ⟨k + 1, _, by omega, by go_num, by go_num, by omega, by omega, HM.out, by simp⟩
          case measure => simp [intOf]; omega
      · have HR : Hid (szR (bulkT l) left = m) := by
          obtain rfl : k = l.length := by omega
          have e1 := hm.out
          rw [List.take_length] at e1
          show _ = _
          rw [szR_yes (by unfold bulkT; omega)]; unfold bulkT; omega
        clear hm
        go_wp2
        go_ret
        exact ⟨by rw [HR.out]; rfl, rfl⟩
  · have hn' : left - (l.length : Int) < 0 := by omega
    have HR : Hid (szR (bulkT l) left = -1) := szR_no (by unfold bulkT; omega)
    go_enter Try.func27, Try.ntmps27
    go_wp2
    go_ret
    exact ⟨by rw [HR.out]; rfl, rfl⟩
theorem szLabs (a1 a2 : Option Addr) (c1 c2 : Nat) (l1 l2 : List ByteArray) (s1 : SaneT l1) (s2 : SaneT l2) (left : Int) (h0 : 0 ≤ left) (h1 : left ≤ 1048576) (w : World) (k1 : ST 0 w (.slice a1 l1.length c1) l1) (k2 : ST 0 w (.slice a2 l2.length c2) l2) :
    Calls Try.prog 24 #[.agg #[.slice a1 l1.length c1, .slice a2 l2.length c2], .int .i64 left] w fun e w' => e = .returned (.int .i64 (szR (bulkT l1 + bulkT l2) left)) ∧ Below w.heap.size w w' := by
  have hbl : Below w.heap.size w (w.alloc (.cells #[.slice a1 l1.length c1, .slice a2 l2.length c2] 38)) := (Below.refl _ _).alloc (Nat.le_refl _) _
  have H1 : Hid (ST 0 (w.alloc (.cells #[.slice a1 l1.length c1, .slice a2 l2.length c2] 38)) (.slice a1 l1.length c1) l1) := k1.on (Keep.of hbl)
  have H2 : Hid (ST 0 (w.alloc (.cells #[.slice a1 l1.length c1, .slice a2 l2.length c2] 38)) (.slice a2 l2.length c2) l2) := k2.on (Keep.of hbl)
  clear k1 k2
  by_cases h : (bulkT l1 : Int) ≤ left
  · have HR1 : Hid (szR (bulkT l1) left = left - bulkT l1) := szR_yes h
    have hp : ¬ left - (bulkT l1 : Int) < 0 := by omega
    by_cases h' : (bulkT l2 : Int) ≤ left - bulkT l1
    · have HR2 : Hid (szR (bulkT l2) (left - bulkT l1) = left - bulkT l1 - bulkT l2) := szR_yes h'
      have HR : Hid (szR (bulkT l1 + bulkT l2) left = left - bulkT l1 - bulkT l2) := by show _ = _; rw [szR_yes (by omega)]; omega
      have hp2 : ¬ left - (bulkT l1 : Int) - (bulkT l2 : Int) < 0 := by omega
      go_enter Try.func24, Try.ntmps24
      go_wp2_with fail
      refine (szStrs a1 c1 l1 s1 left h0 h1 _ H1.out).mono ?_
      rw [HR1.out]
      rintro e w1 ⟨rfl, rfl⟩
      go_wp2_with fail
      refine (szStrs a2 c2 l2 s2 _ (by omega) (by omega) _ H2.out).mono ?_
      rw [HR2.out]
      rintro e w1 ⟨rfl, rfl⟩
      go_wp2
      go_ret
      exact ⟨by rw [HR.out]; rfl, hbl⟩
    · have HR2 : Hid (szR (bulkT l2) (left - bulkT l1) = -1) := szR_no (by omega)
      have HR : Hid (szR (bulkT l1 + bulkT l2) left = -1) := szR_no (by omega)
      go_enter Try.func24, Try.ntmps24
      go_wp2_with fail
      refine (szStrs a1 c1 l1 s1 left h0 h1 _ H1.out).mono ?_
      rw [HR1.out]
      rintro e w1 ⟨rfl, rfl⟩
      go_wp2_with fail
      refine (szStrs a2 c2 l2 s2 _ (by omega) (by omega) _ H2.out).mono ?_
      rw [HR2.out]
      rintro e w1 ⟨rfl, rfl⟩
      go_wp2
      go_ret
      exact ⟨by rw [HR.out]; rfl, hbl⟩
  · have HR1 : Hid (szR (bulkT l1) left = -1) := szR_no (by omega)
    have HR : Hid (szR (bulkT l1 + bulkT l2) left = -1) := szR_no (by omega)
    go_enter Try.func24, Try.ntmps24
    go_wp2_with fail
    refine (szStrs a1 c1 l1 s1 left h0 h1 _ H1.out).mono ?_
    rw [HR1.out]
    rintro e w1 ⟨rfl, rfl⟩
    go_wp2
    go_ret
    exact ⟨by rw [HR.out]; rfl, hbl⟩

/-- A row of cells at the front of a block, which may be written. -/
def VR (w : World) (g n : Nat) (f : Nat → Value) : Prop := g < w.heap.size ∧ ∀ k, k < n → w.cell? ⟨g, k, none⟩ = some (f k) ∧ w.frozen? ⟨g, k, none⟩ = false
theorem VR.on {u w : World} {g n : Nat} {f : Nat → Value} (h : VR u g n f) (hb : Below u.heap.size u w) : VR w g n f :=
  ⟨Nat.lt_of_lt_of_le h.1 hb.size, fun k hk => ⟨(hb.cell (p := ⟨g, k, none⟩) h.1).trans (h.2 k hk).1, (hb.frozen (p := ⟨g, k, none⟩) h.1).trans (h.2 k hk).2⟩⟩
theorem VR.congr {w : World} {g n : Nat} {f f' : Nat → Value} (h : VR w g n f) (e : ∀ k, k < n → f k = f' k) : VR w g n f' := ⟨h.1, fun k hk => by rw [← e k hk]; exact h.2 k hk⟩
theorem VR.set {w : World} {g n : Nat} {f : Nat → Value} (h : VR w g n f) (k : Nat) (v : Value) : VR (w.setCell ⟨g, k, none⟩ v) g n fun j => if j = k then v else f j := by
  refine ⟨by simpa using h.1, fun j hj => ?_⟩
  obtain ⟨h1, h2⟩ := h.2 j hj
  refine ⟨?_, by simpa using h2⟩
  show _ = some (if j = k then v else f j)
  by_cases e : j = k
  · subst e
    rw [if_pos rfl]
    exact World.cell?_setCell_same _ _ _ h1
  · rw [if_neg e]
    exact (World.cell?_setCell_other _ _ _ _ (fun e' => e (congrArg Addr.off e').symm)).trans h1
theorem VR.far {w : World} {g n : Nat} {f : Nat → Value} (h : VR w g n f) {p : Addr} (hp : p.block ≠ g) (v : Value) : VR (w.setCell p v) g n f := by
  refine ⟨by simpa using h.1, fun j hj => ?_⟩
  obtain ⟨h1, h2⟩ := h.2 j hj
  exact ⟨(World.cell?_setCell_other _ _ _ _ (fun e => hp (by rw [e]))).trans h1, by simpa using h2⟩
theorem own_vr {B : Nat} {w : World} {g n cap : Nat} {e : TypeId} {z : Value} (hz : z.cells = #[z]) (h : w.ownsRow B e 1 (.slice (some ⟨g, 0, none⟩) n cap) n (madeCells z.cells (n * 1)).toList) : VR w g n fun _ => z := by
  have e : (madeCells z.cells (n * 1)).toList = List.replicate n z := by rw [Nat.mul_one, hz]; exact toList_madeCells_one _ _
  rw [e] at h
  have hc := @World.ownsRow.cells w B _ 1 _ n _ h
  have hlt := @World.ownsRow.lt w B _ 1 _ n _ h
  obtain ⟨_, ⟨h, _⟩ | ⟨g', cap', cur, hv, hB, hblk, hcap, hmax, hsz, _⟩⟩ := h
  · simp at h
  · injection hv with e1 e2 e3
    injection e1 with e1
    injection e1 with e1
    subst e1
    refine ⟨(hlt g rfl).2, fun k hk => ⟨?_, by simp [World.frozen?, hblk]⟩⟩
    have := hc (g := g) rfl k z (by simp [hk])
    simpa [Go.WideShapes.add_plain] using this
/-- A row of texts at the front of a block, which may be written. -/
def TR (w : World) (g : Nat) (l : List ByteArray) : Prop := VR w g l.length fun j => .string (l.getD j ByteArray.empty)
theorem TR.on {u w : World} {g : Nat} {l : List ByteArray} (h : TR u g l) (hb : Below u.heap.size u w) : TR w g l := VR.on h hb
theorem TR.st {w : World} {g cap : Nat} {l : List ByteArray} (h : TR w g l) : ST 0 w (.slice (some ⟨g, 0, none⟩) l.length cap) l := by
  refine ⟨_, _, rfl, fun h => by simp at h, fun h0 => ⟨g, 0, rfl, Nat.zero_le _, ⟨h.1, fun h => by simp at h⟩, fun j x hj => ?_⟩⟩
  have hjl := (List.getElem?_eq_some_iff.1 hj).1
  have h2 : w.cell? ⟨g, j, none⟩ = some (.string (l.getD j ByteArray.empty)) := (h.2 j hjl).1
  rw [Nat.mul_one, Nat.zero_add]
  show w.cell? _ = some (.string x)
  rw [h2, List.getD_eq_getElem?_getD, hj]; rfl
theorem infoStr : (Try.prog.info? 9).map (fun i => (i.zero, i.size, i.bytes)) = some (some (.string ByteArray.empty), 1, 16) := by kernel_rfl

set_option maxRecDepth 100000 in
set_option maxHeartbeats 1000000 in
theorem toStrs (a : Option Addr) (cap : Nat) (l : List ByteArray) (hl : l.length ≤ 1048576) (w : World) (h : ST 0 w (.slice a l.length cap) l) :
    Calls Try.prog 28 #[.slice a l.length cap] w fun e w' => e = .returned (.slice (some ⟨w.heap.size, 0, none⟩) l.length l.length) ∧ TR w' w.heap.size l ∧ Below w.heap.size w w' := by
  obtain ⟨i0, hif, hz0, hz1, hz2⟩ := info_parts infoStr
  have H : Hid (ST 0 w (.slice a l.length cap) l) := h
  clear h
  go_enter Try.func28, Try.ntmps28
  go_wp2_with (at_make; refine wpList_make_full _ rfl _ _ 27 rfl w.heap.size 9 i0 (.string ByteArray.empty) 1 Try.underlying27 hif hz0 hz1 .i64 .i64 _ _ l.length rfl rfl rfl rfl (by rw [hz2]; omega) (by unfold maxLen; omega) (Nat.le_refl _) ?_; intro w0 hown0 hgrow0)
  have HV0 : Hid (VR w0 w.heap.size l.length fun _ => .string ByteArray.empty) := own_vr rfl hown0
  have hb0 : Below w.heap.size w w0 := (Below.refl _ _).grown hgrow0 (Nat.le_refl _) (fun _ h => by simp at h)
  clear hown0 hgrow0
  go_loopw [4] (fun i wr => ∃ k : Nat, k ≤ l.length ∧ i = .int .i64 (k : Int) ∧ Hid (VR wr w.heap.size l.length fun j => if j < k then .string (l.getD j ByteArray.empty) else .string ByteArray.empty) ∧ Below w.heap.size w wr) (fun i _ => l.length - (intOf i).toNat)
  case atStart => exact ⟨0, Nat.zero_le _, rfl, VR.congr HV0.out fun j _ => by simp, hb0⟩
  case round =>
    clear HV0 hb0
    obtain ⟨k, hk, rfl, hv, hb⟩ := hrel
    by_cases hlt : k < l.length
    · have hki : (k : Int) < (l.length : Int) := by omega
      obtain ⟨b, o, rfl, _, c0⟩ := (H.out.on (Keep.of hb)).get hlt
      unfold StrAt at c0
      rw [Nat.mul_one] at c0
      obtain ⟨d0, d1⟩ := hv.out.2 k hlt
      have d0' : wr.cell? ⟨w.heap.size, k, none⟩ = some (if k < k then .string (l.getD k ByteArray.empty) else .string ByteArray.empty) := d0
      rw [if_neg (Nat.lt_irrefl k)] at d0'
      clear d0
      have HN : Hid (∀ t, t = l[k] → VR (wr.setCell ⟨w.heap.size, k, none⟩ (.string t)) w.heap.size l.length fun j => if j < k + 1 then .string (l.getD j ByteArray.empty) else .string ByteArray.empty) := fun t ht => VR.congr (hv.out.set k (.string t)) fun j hj => by
        show (if j = k then Value.string t else if j < k then Value.string (l.getD j ByteArray.empty) else .string ByteArray.empty) = _
        by_cases e : j = k
        · subst e
          rw [if_pos rfl, if_pos (by omega), ht, List.getD_eq_getElem?_getD, List.getElem?_eq_getElem hlt]; rfl
        · rw [if_neg e]
          by_cases h : j < k
          · rw [if_pos h, if_pos (by omega)]
          · rw [if_neg h, if_neg (by omega)]
      have hb' : ∀ t, Below w.heap.size w (wr.setCell ⟨w.heap.size, k, none⟩ (.string t)) := fun t => hb.setCell (Nat.le_refl _) _
      have HB : Hid (∀ t, Below w.heap.size w (wr.setCell ⟨w.heap.size, k, none⟩ (.string t))) := hb'
      have HN1 := HN.out _ rfl
      have HB1 := HB.out l[k]
      clear HN HB hb' hv
      generalize l[k] = t at *
      have HN2 : Hid (VR (wr.setCell ⟨w.heap.size, k, none⟩ (.string t)) w.heap.size l.length fun j => if j < k + 1 then .string (l.getD j ByteArray.empty) else .string ByteArray.empty) := HN1
      clear HN1
      go_wp2
      go_roundw
      case rel => exact ⟨k + 1, by omega, by go_num, HN2.out, HB1⟩
      case measure => simp [intOf]; omega
    · have HT : Hid (TR wr w.heap.size l) := VR.congr hv.out fun j hj => by rw [if_pos (by omega)]
      clear hv
      go_wp2
      go_ret
      exact ⟨rfl, HT.out, hb⟩
set_option maxHeartbeats 1000000 in
theorem eqStrs (a1 a2 : Option Addr) (c1 c2 : Nat) (l : List ByteArray) (hl : l.length ≤ 1048576) (w : World) (k1 : ST 0 w (.slice a1 l.length c1) l) (k2 : ST 0 w (.slice a2 l.length c2) l) :
    Calls Try.prog 30 #[.slice a1 l.length c1, .slice a2 l.length c2] w fun e w' => e = .returned (.bool true) ∧ Below w.heap.size w w' := by
  have H1 : Hid (ST 0 w (.slice a1 l.length c1) l) := k1
  have H2 : Hid (ST 0 w (.slice a2 l.length c2) l) := k2
  clear k1 k2
  go_enter Try.func30, Try.ntmps30
  go_wp2
  go_loopw [5] (fun i wr => ∃ k : Nat, k ≤ l.length ∧ i = .int .i64 (k : Int) ∧ Below w.heap.size w wr) (fun i _ => l.length - (intOf i).toNat)
  case atStart => exact ⟨0, Nat.zero_le _, rfl, Below.refl _ _⟩
  case round =>
    obtain ⟨k, hk, rfl, hb⟩ := hrel
    by_cases hlt : k < l.length
    · have hki : (k : Int) < (l.length : Int) := by omega
      obtain ⟨b, o, rfl, _, c0⟩ := (H1.out.on (Keep.of hb)).get hlt
      obtain ⟨b', o', rfl, _, d0⟩ := (H2.out.on (Keep.of hb)).get hlt
      unfold StrAt at c0 d0
      rw [Nat.mul_one] at c0 d0
      generalize l[k] = t at *
      have hb1 : ∀ n, Below w.heap.size w (wr.drewN n) := fun n => hb.trans ⟨rfl, rfl, rfl, Nat.le_refl _, fun _ _ => rfl⟩
      go_wp2
      go_quiet (fail)
      go_wp2
      go_roundw
      case rel => exact ⟨k + 1, by omega, by go_num, hb1 _⟩
      case measure => simp [intOf]; omega
    · go_wp2
      go_ret
      exact ⟨rfl, hb⟩
end Pg
end Go.Proofs.Ytbachkjhmenhfaa
