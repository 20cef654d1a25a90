/- Contracts of the specification's KeptClasses and KeptNames, and of the laws' own marking of texts. -/
import Derived.Test.YtbachkjhmenhfaaLb3
import Derived.Test.YtbachkjhmenhfaaLb6
import Derived.Test.YtbachkjhmenhfaaInt0
namespace Go.Proofs.Ytbachkjhmenhfaa
namespace Pg
open Go.ChangeShapes Go.WideShapes Go.ChangeAt Go.RowKit St

theorem kept_sta {l1 l2 l rules : List ByteArray} (h : (labsB l1 l2 && rulesB rules) = true) (h0 : l.length ≠ 0) : keptA l1 l2 l rules = staL l rules l.length := by
  unfold keptA staL keptL
  rw [if_pos h, if_neg h0]
theorem labs_pos {l1 l2 : List ByteArray} (h : labsB l1 l2 = true) : l1.length ≠ 0 ∧ l2.length ≠ 0 := by
  unfold labsB at h
  simp only [Bool.and_eq_true, decide_eq_true_eq] at h
  omega
theorem rules_len {l : List ByteArray} (h : rulesB l = true) : l.length ≤ 20 := by
  unfold rulesB at h
  simp only [Bool.and_eq_true, decide_eq_true_eq] at h
  exact h.1
theorem specKeptClasses (a1 a2 a4 : Option Addr) (c1 c2 c4 : Nat) (l1 l2 rules : List ByteArray) (h1 : l1.length ≤ 1048576) (h2 : l2.length ≤ 1048576) (h4 : rules.length ≤ 1048576) (w : World)
    (s1 : ST 0 w (.slice a1 l1.length c1) l1) (s2 : ST 0 w (.slice a2 l2.length c2) l2) (s4 : ST 0 w (.slice a4 rules.length c4) rules) :
    Calls Try.prog 18 #[.agg #[.slice a1 l1.length c1, .slice a2 l2.length c2], .slice a4 rules.length c4] w fun e w' => ∃ v, e = .returned v ∧ Lst w' v (keptA l1 l2 l1 rules) ∧ Below w.heap.size w w' := by
  obtain ⟨W, hW⟩ : ∃ W, W = w.alloc (.cells #[.slice a1 l1.length c1, .slice a2 l2.length c2] 29) := ⟨_, rfl⟩
  have hwW : Below w.heap.size w W := by rw [hW]; exact (Below.refl _ _).alloc (Nat.le_refl _) _
  have L0 : Hid (Cells W w.heap.size [.slice a1 l1.length c1, .slice a2 l2.length c2]) := by show Cells _ _ _; rw [hW]; exact Cells.new w _ rfl _ _
  have S1 : Hid (ST 0 w (.slice a1 l1.length c1) l1) := s1
  have S2 : Hid (ST 0 w (.slice a2 l2.length c2) l2) := s2
  have S4 : Hid (ST 0 w (.slice a4 rules.length c4) rules) := s4
  clear s1 s2 s4
  go_enter Try.func18, Try.ntmps18
  go_wp2_with fail
  rw [← hW]
  clear hW
  refine (specLabels a1 a2 c1 c2 l1 l2 h1 h2 _ (S1.out.on (Keep.of hwW)) (S2.out.on (Keep.of hwW))).mono ?_
  rintro e w1 ⟨rfl, hb1⟩
  have hw1 := below_over hwW hb1
  have L1 : Hid (Cells w1 w.heap.size [.slice a1 l1.length c1, .slice a2 l2.length c2]) := L0.out.on hb1
  clear hb1 L0 hwW
  cases hL : labsB l1 l2
  · have HK : Hid (keptA l1 l2 l1 rules = []) := by show _ = _; unfold keptA; rw [hL]; rfl
    have HG : Hid (Lst (w1.alloc (.cells #[] 2)) (.slice (some ⟨w1.heap.size, 0, none⟩) 0 0) []) := (grow_start w1).lst
    go_wp2
    go_ret
    exact ⟨_, rfl, by rw [HK.out]; exact HG.out, hw1.alloc hw1.size _⟩
  · have hl20 := labs_len hL
    have hl0 := labs_pos hL
    go_wp2_with fail
    refine (l15Rules_at a4 c4 rules h4 _ (S4.out.on (Keep.of hw1))).mono ?_
    rintro e w2 ⟨rfl, rfl⟩
    cases hR : rulesB rules
    · have HK : Hid (keptA l1 l2 l1 rules = []) := by show _ = _; unfold keptA; rw [hL, hR]; rfl
      have HG : Hid (Lst (w2.alloc (.cells #[] 2)) (.slice (some ⟨w2.heap.size, 0, none⟩) 0 0) []) := (grow_start w2).lst
      go_wp2
      go_ret
      exact ⟨_, rfl, by rw [HK.out]; exact HG.out, hw1.alloc hw1.size _⟩
    · have HK : Hid (keptA l1 l2 l1 rules = staL l1 rules l1.length) := kept_sta (by rw [hL, hR]; rfl) hl0.1
      obtain ⟨i0, _⟩ := L1.out.g0
      have hr20 := rules_len hR
      clear hR hL hl0
      go_wp2_with fail
      refine (l15Kept_at a1 a4 c1 c4 l1 rules hl20.1 hr20 _ (S1.out.on (Keep.of hw1)) (S4.out.on (Keep.of hw1))).mono ?_
      rintro e w3 ⟨v, rfl, hv, hb3⟩
      have HV : Hid (Lst w3 v (staL l1 rules l1.length)) := hv
      clear hv
      go_wp2
      go_ret
      exact ⟨_, rfl, by rw [HK.out]; exact HV.out, below_over hw1 hb3⟩
theorem specKeptNames (a1 a2 a4 : Option Addr) (c1 c2 c4 : Nat) (l1 l2 rules : List ByteArray) (h1 : l1.length ≤ 1048576) (h2 : l2.length ≤ 1048576) (h4 : rules.length ≤ 1048576) (w : World)
    (s1 : ST 0 w (.slice a1 l1.length c1) l1) (s2 : ST 0 w (.slice a2 l2.length c2) l2) (s4 : ST 0 w (.slice a4 rules.length c4) rules) :
    Calls Try.prog 19 #[.agg #[.slice a1 l1.length c1, .slice a2 l2.length c2], .slice a4 rules.length c4] w fun e w' => ∃ v, e = .returned v ∧ Lst w' v (keptA l1 l2 l2 rules) ∧ Below w.heap.size w w' := by
  obtain ⟨W, hW⟩ : ∃ W, W = w.alloc (.cells #[.slice a1 l1.length c1, .slice a2 l2.length c2] 29) := ⟨_, rfl⟩
  have hwW : Below w.heap.size w W := by rw [hW]; exact (Below.refl _ _).alloc (Nat.le_refl _) _
  have L0 : Hid (Cells W w.heap.size [.slice a1 l1.length c1, .slice a2 l2.length c2]) := by show Cells _ _ _; rw [hW]; exact Cells.new w _ rfl _ _
  have S1 : Hid (ST 0 w (.slice a1 l1.length c1) l1) := s1
  have S2 : Hid (ST 0 w (.slice a2 l2.length c2) l2) := s2
  have S4 : Hid (ST 0 w (.slice a4 rules.length c4) rules) := s4
  clear s1 s2 s4
  go_enter Try.func19, Try.ntmps19
  go_wp2_with fail
  rw [← hW]
  clear hW
  refine (specLabels a1 a2 c1 c2 l1 l2 h1 h2 _ (S1.out.on (Keep.of hwW)) (S2.out.on (Keep.of hwW))).mono ?_
  rintro e w1 ⟨rfl, hb1⟩
  have hw1 := below_over hwW hb1
  have L1 : Hid (Cells w1 w.heap.size [.slice a1 l1.length c1, .slice a2 l2.length c2]) := L0.out.on hb1
  clear hb1 L0 hwW
  cases hL : labsB l1 l2
  · have HK : Hid (keptA l1 l2 l2 rules = []) := by show _ = _; unfold keptA; rw [hL]; rfl
    have HG : Hid (Lst (w1.alloc (.cells #[] 2)) (.slice (some ⟨w1.heap.size, 0, none⟩) 0 0) []) := (grow_start w1).lst
    go_wp2
    go_ret
    exact ⟨_, rfl, by rw [HK.out]; exact HG.out, hw1.alloc hw1.size _⟩
  · have hl20 := labs_len hL
    have hl0 := labs_pos hL
    go_wp2_with fail
    refine (l15Rules_at a4 c4 rules h4 _ (S4.out.on (Keep.of hw1))).mono ?_
    rintro e w2 ⟨rfl, rfl⟩
    cases hR : rulesB rules
    · have HK : Hid (keptA l1 l2 l2 rules = []) := by show _ = _; unfold keptA; rw [hL, hR]; rfl
      have HG : Hid (Lst (w2.alloc (.cells #[] 2)) (.slice (some ⟨w2.heap.size, 0, none⟩) 0 0) []) := (grow_start w2).lst
      go_wp2
      go_ret
      exact ⟨_, rfl, by rw [HK.out]; exact HG.out, hw1.alloc hw1.size _⟩
    · have HK : Hid (keptA l1 l2 l2 rules = staL l2 rules l2.length) := kept_sta (by rw [hL, hR]; rfl) hl0.2
      obtain ⟨i0, _⟩ := L1.out.g1
      have hr20 := rules_len hR
      clear hR hL hl0
      go_wp2_with fail
      refine (l15Kept_at a2 a4 c2 c4 l2 rules hl20.2 hr20 _ (S2.out.on (Keep.of hw1)) (S4.out.on (Keep.of hw1))).mono ?_
      rintro e w3 ⟨v, rfl, hv, hb3⟩
      have HV : Hid (Lst w3 v (staL l2 rules l2.length)) := hv
      clear hv
      go_wp2
      go_ret
      exact ⟨_, rfl, by rw [HK.out]; exact HV.out, below_over hw1 hb3⟩
/-- What marking a row leaves as it was. -/
structure MrT (g : Nat) (u v : World) : Prop where
  os : v.os = u.os
  tape : v.tape = u.tape
  output : v.output = u.output
  size : u.heap.size ≤ v.heap.size
  far : ∀ k, k < u.heap.size → k ≠ g → v.heap[k]? = u.heap[k]?
theorem MrT.refl (g : Nat) (u : World) : MrT g u u := ⟨rfl, rfl, rfl, Nat.le_refl _, fun _ _ _ => rfl⟩
theorem MrT.trans {g : Nat} {u v w : World} (h : MrT g u v) (k : MrT g v w) : MrT g u w := ⟨k.os.trans h.os, k.tape.trans h.tape, k.output.trans h.output, Nat.le_trans h.size k.size, fun i hi hf => (k.far i (Nat.lt_of_lt_of_le hi h.size) hf).trans (h.far i hi hf)⟩
theorem MrT.of {g : Nat} {u v : World} (h : Below u.heap.size u v) : MrT g u v := ⟨h.os, h.tape, h.output, h.size, fun k hk _ => h.block k hk⟩
theorem MrT.set (g : Nat) (u : World) (o : Nat) (x : Value) : MrT g u (u.setCell ⟨g, o, none⟩ x) := by
  have h := (Only.refl g u).set o x
  exact ⟨h.os, h.tape, h.output, by rw [h.size]; exact Nat.le_refl _, fun k _ hk => h.block k hk⟩
theorem MrT.below {g B : Nat} {u v : World} (h : MrT g u v) (hB : B ≤ g) (hu : B ≤ u.heap.size) : Below B u v := ⟨h.os, h.tape, h.output, h.size, fun k hk => h.far k (by omega) (by omega)⟩
theorem MrT.irow {g g' o : Nat} {u v : World} {l : List Int} (h : MrT g u v) (hne : g' ≠ g) (hr : IRow u g' o l) : IRow v g' o l := fun j x hj => (World.cell?_of_block (w := u) (h.far g' (cell_lt (hr j x hj)) hne)).trans (hr j x hj)
theorem MrT.room {g g' n : Nat} {u v : World} (h : MrT g u v) (hne : g' ≠ g) (hr : Room u g' n) : Room v g' n := fun i hi => by
  obtain ⟨⟨x, hx⟩, hf⟩ := hr i hi
  have l : g' < u.heap.size := cell_lt hx
  exact ⟨⟨x, (World.cell?_of_block (w := u) (h.far g' l hne)).trans hx⟩, (World.frozen?_of_block (w := u) (h.far g' l hne)).trans hf⟩
theorem MrT.vr {g g' n : Nat} {u v : World} {f : Nat → Value} (h : MrT g u v) (hne : g' ≠ g) (hr : VR u g' n f) : VR v g' n f :=
  ⟨Nat.lt_of_lt_of_le hr.1 h.size, fun k hk => ⟨(World.cell?_of_block (w := u) (h.far g' hr.1 hne)).trans (hr.2 k hk).1, (World.frozen?_of_block (w := u) (h.far g' hr.1 hne)).trans (hr.2 k hk).2⟩⟩

set_option maxRecDepth 100000 in
set_option maxHeartbeats 1000000 in
theorem markText_at (k : Nat) (hk : k ≤ 5000000) (w : World) :
    Calls Try.prog 51 #[.int .i64 k] w fun e w' => ∃ s, e = .returned (.string s) ∧ Below w.heap.size w w' := by
  by_cases h0 : k = 0
  · have h0i : (k : Int) ≤ 0 := by omega
    clear h0
    go_enter Try.func51, Try.ntmps51
    go_wp2
    go_ret
    exact ⟨_, rfl, Below.refl _ _⟩
  · have h0i : ¬ (k : Int) ≤ 0 := by omega
    go_enter Try.func51, Try.ntmps51
    go_wp2
    go_loopw [0, 3] (fun nv sv wr => ∃ (m : Int) (s : ByteArray), nv = .int .i64 m ∧ sv = .string s ∧ 0 ≤ m ∧ (s.size : Int) + m ≤ 5000000 ∧ Below w.heap.size w wr) (fun nv _ _ => (intOf nv).toNat)
    case atStart => exact ⟨(k : Int), ⟨#[]⟩, rfl, rfl, by omega, by show (((⟨#[]⟩ : ByteArray).size : Nat) : Int) + (k : Int) ≤ 5000000; simp [ByteArray.size]; omega, Below.refl _ _⟩
    case round =>
      obtain ⟨m, s, rfl, rfl, hm0, hm1, hb⟩ := hrel
      by_cases hp : 0 < m
      · have hb0 : 0 ≤ m % 10 := by omega
        have hbd2 : m % 10 < 10 := by omega
        have hq0 : 0 ≤ m / 10 := by omega
        have hq1 : m / 10 < m := by omega
        have hcv := fun t => conv_one wr (48 + m % 10) t (by omega) (by omega)
        have hsz : s.size ≤ 5000000 := by omega
        have HSZ : Hid (∀ c : UInt8, ((((⟨#[c]⟩ : ByteArray) ++ s).size : Nat) : Int) = (s.size : Int) + 1) := fun c => by
          have : ((⟨#[c]⟩ : ByteArray) ++ s).size = s.size + 1 := by
            rw [← str_len, cons_str, List.length_cons, str_len]
          omega
        go_wp2
        go_roundw
        case rel => exact ⟨m / 10, _, by go_num, rfl, hq0, by rw [HSZ.out]; omega, hb.alloc hb.size _⟩
        case measure => simp only [intOf]; omega
      · have hz : m = 0 := by omega
        have hsz : s.size ≤ 5000000 := by omega
        go_wp2
        go_ret
        first | exact ⟨_, rfl, hb⟩ | exact ⟨⟨_, rfl⟩, hb⟩
set_option maxHeartbeats 1000000 in
theorem markStrs (g cap n m : Nat) (hn : n ≤ 1048576) (hm : m ≤ 3000000) (f : Nat → Value) (w : World) (h : VR w g n f) :
    Calls Try.prog 32 #[.slice (some ⟨g, 0, none⟩) n cap, .int .i64 m] w fun e w' => e = .returned (.int .i64 ((m + n : Nat) : Int)) ∧ MrT g w w' := by
  have H : Hid (VR w g n f) := h
  clear h
  go_enter Try.func32, Try.ntmps32
  go_wp2
  go_loopw [1, 5] (fun q i wr => ∃ k : Nat, k ≤ n ∧ i = .int .i64 (k : Int) ∧ q = .int .i64 ((m : Int) + (k : Int)) ∧ Hid (∃ f, VR wr g n f) ∧ Hid (MrT g w wr)) (fun _ i _ => n - (intOf i).toNat)
  case atStart => exact ⟨0, Nat.zero_le _, rfl, by simp, ⟨f, H.out⟩, MrT.refl _ _⟩
  case round =>
    clear H
    obtain ⟨k, hk, rfl, rfl, hv, hmr⟩ := hrel
    by_cases hlt : k < n
    · have hki : (k : Int) < (n : Int) := by omega
      go_wp2_with fail
      have hT := markText_at (m + k) (by omega) wr
      rw [show (((m + k : Nat) : Int)) = (m : Int) + (k : Int) from by omega] at hT
      refine hT.mono ?_
      rintro e w1 ⟨s, rfl, hb1⟩
      obtain ⟨f1, hf1⟩ := hv.out
      have hf2 := hf1.on hb1
      obtain ⟨c0, c1⟩ := hf2.2 k hlt
      have HV : Hid (∃ f, VR (w1.setCell ⟨g, k, none⟩ (.string s)) g n f) := ⟨_, hf2.set k _⟩
      have HM : Hid (MrT g w (w1.setCell ⟨g, k, none⟩ (.string s))) := (hmr.out.trans (MrT.of hb1)).trans (MrT.set g w1 k _)
      clear hf1 hf2 hb1 hv hmr hT
      go_wp2
      go_roundw
      case rel => exact ⟨k + 1, by omega, by go_num, by go_num, HV.out, HM.out⟩
      case measure => simp [intOf]; omega
    · obtain rfl : k = n := by omega
      go_wp2
      go_ret
      exact ⟨by rw [show ((m + k : Nat) : Int) = (m : Int) + (k : Int) from by omega]; rfl, hmr.out⟩
end Pg
end Go.Proofs.Ytbachkjhmenhfaa
