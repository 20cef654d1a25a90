/- The contract of the other side's cutting of a text at a byte: the walk. -/
import Derived.Test.YtnlanikjlokboaaGreatDoorSp0
namespace Go.Proofs.YtnlanikjlokboaaGreatDoor
namespace St
open Go.ChangeShapes Go.WideShapes Go.ChangeAt Go.RowKit

theorem infoS : (Tryz.prog.info? 9).map (fun i => (i.zero, i.size, i.bytes)) = some (some (.string ByteArray.empty), 1, 16) := by kernel_rfl

/-- Where the loop stands at place k. -/
def SpSt (s : ByteArray) (c : UInt8) (B k m : Nat) (v : Value) (wr : World) : Prop :=
  (k ≤ s.size ∧ m = k - (spF c (s.data.toList.take k)).2.length ∧ wr.ownsRow B 9 1 v (spF c (s.data.toList.take k)).1.length (strs (spF c (s.data.toList.take k)).1)) ∨
  (k = s.size + 1 ∧ wr.ownsRow B 9 1 v (Tx.splitC c s.data.toList).length (strs (Tx.splitC c s.data.toList)))

theorem take_snoc (s : ByteArray) (k : Nat) (h : k < s.size) : s.data.toList.take (k + 1) = s.data.toList.take k ++ [s[k]] := by
  rw [List.take_succ_eq_append_getElem (by simpa using h)]; rfl

/-- The piece that is cut out. -/
theorem piece_eq (s : ByteArray) (c : UInt8) (k : Nat) (hk : k ≤ s.size) : s.extract (k - (spF c (s.data.toList.take k)).2.length) k = ⟨(spF c (s.data.toList.take k)).2.toArray⟩ := by
  apply str_eq
  rw [Lib.extract_data]
  have hl : (s.data.toList.take k).length = k := by rw [List.length_take]; have : s.data.toList.length = s.size := by simp
                                                    omega
  have h := spF_end c (s.data.toList.take k)
  rw [hl] at h
  show _ = (spF c (s.data.toList.take k)).2
  conv => rhs; rw [h]
  rw [List.drop_take]

set_option maxHeartbeats 1000000 in
set_option maxRecDepth 100000 in
theorem split_at (s : ByteArray) (hs : s.size ≤ 2000000) (c : UInt8) (w : World) :
    Calls Tryz.prog 21 #[.string s, .int .u8 c.toNat] w fun e w' => ∃ v, e = .returned v ∧ w'.ownsRow w.heap.size 9 1 v (Tx.splitC c s.data.toList).length (strs (Tx.splitC c s.data.toList)) ∧ Below w.heap.size w w' := by
  obtain ⟨i0, hi, hz0, hz1, hz2⟩ := info_parts infoS
  go_enter Tryz.func21, Tryz.ntmps21
  go_wp2
  go_loopw [5, 6, 7] (fun v f i wr => ∃ (k m : Nat) (v0 : Value), k ≤ s.size + 1 ∧ m ≤ s.size + 1 ∧ i = .int .i64 k ∧ f = .int .i64 m ∧ v0 = v ∧ SpSt s c w.heap.size k m v0 wr ∧ Below w.heap.size w wr) (fun _ _ i _ => s.size + 1 - (intOf i).toNat)
  case atStart =>
    refine ⟨0, 0, _, by omega, by omega, rfl, rfl, rfl, Or.inl ⟨by omega, by simp, ?_⟩, by go_grown⟩
    simpa [spF, strs] using World.ownsRow_made w #[] 0 (Nat.le_refl _) (by decide) (by simp)
  case round =>
    obtain ⟨k, m, v, hk, hmm, rfl, rfl, rfl, hst, hb⟩ := hrel
    rcases hst with ⟨hks, hm, hown⟩ | ⟨hks, hown⟩
    · have hpc := piece_eq s c k hks
      rw [← hm] at hpc
      have hmk : m ≤ k := by omega
      have hlen := (spF_len c (s.data.toList.take k)).1
      have hlk : (s.data.toList.take k).length ≤ k := by rw [List.length_take]; omega
      have HM : Hid (m = k - (spF c (s.data.toList.take k)).2.length) := hm
      have HO : Hid (wr.ownsRow w.heap.size 9 1 v (spF c (s.data.toList.take k)).1.length (strs (spF c (s.data.toList.take k)).1)) := hown
      have HP : Hid (s.extract m k = ⟨(spF c (s.data.toList.take k)).2.toArray⟩) := hpc
      clear hm hown hpc
      by_cases hlt : k < s.size
      · by_cases hc : s[k] = c
        · have hq : ((s[k].toNat : Int) == (c.toNat : Int)) = true := by rw [hc]; simp
          go_wp2_with (at_builtin; refine wpList_append_own _ rfl _ _ 37 rfl w.heap.size 9 i0 (.string ByteArray.empty) 1 16 Tryz.underlying37 hi hz0 hz1 hz2 rfl (by decide) _ _ _ rfl (HO.out.alloc _) ⟨wr.heap.size, 0, none⟩ 1 1 [.string (s.extract m k)] rfl rfl ?c1 ?c2 ?c3 ?c4 ?c5 ?_)
          case c1 =>
            intro j u hj
            match j, hj with
            | 0, hj => simp at hj; subst hj; simp [Addr.add]
          case c2 => intro u hu; simp at hu; subst hu; rfl
          case c3 => unfold maxLen; omega
          case c4 => omega
          case c5 => have := hb.size; simp; omega
          intro v' w1 hown' hgrow _
          rw [HP.out] at hown'
          have hb1 : Below w.heap.size w w1 := (hb.alloc hb.size _).grown hgrow (by have := hb.size; simp; omega) (fun g hg => (HO.out.lt g hg).1)
          have HW : Hid (w1.ownsRow w.heap.size 9 1 v' ((spF c (s.data.toList.take k)).1.length + 1) (strs (spF c (s.data.toList.take k)).1 ++ [.string ⟨(spF c (s.data.toList.take k)).2.toArray⟩])) := hown'
          clear hown' hgrow HO
          go_wp2
          go_roundw
          case rel =>
            refine ⟨k + 1, k + 1, v', by omega, by omega, by go_num, by go_num, rfl, Or.inl ⟨by omega, ?_, ?_⟩, hb1⟩
            · rw [take_snoc s k hlt, spF_snoc, if_pos hc]; simp
            · rw [take_snoc s k hlt, spF_snoc, if_pos hc]
              simpa [strs] using HW.out
          case measure => simp [intOf]; omega
        · have hq : ((s[k].toNat : Int) == (c.toNat : Int)) = false := by
            simp only [beq_eq_false_iff_ne, ne_eq]
            intro h; apply hc; apply UInt8.toNat_inj.1; omega
          go_wp2
          go_roundw
          case rel =>
            refine ⟨k + 1, m, v, by omega, by omega, by go_num, rfl, rfl, Or.inl ⟨by omega, ?_, ?_⟩, hb⟩
            · rw [take_snoc s k hlt, spF_snoc, if_neg hc]
              have := HM.out
              have h2 := (spF_len c (s.data.toList.take k)).2
              simp only [List.length_append, List.length_singleton]; omega
            · rw [take_snoc s k hlt, spF_snoc, if_neg hc]; exact HO.out
          case measure => simp [intOf]; omega
      · have hke : k = s.size := by omega
        have hq : ((k : Int) == (s.size : Int)) = true := by rw [hke]; simp
        have hle : (k : Int) ≤ (s.size : Int) := by omega
        have HK : Hid (k = s.size) := hke
        clear hke
        go_wp2_with (at_builtin; refine wpList_append_own _ rfl _ _ 37 rfl w.heap.size 9 i0 (.string ByteArray.empty) 1 16 Tryz.underlying37 hi hz0 hz1 hz2 rfl (by decide) _ _ _ rfl (HO.out.alloc _) ⟨wr.heap.size, 0, none⟩ 1 1 [.string (s.extract m k)] rfl rfl ?c1 ?c2 ?c3 ?c4 ?c5 ?_)
        case c1 =>
          intro j u hj
          match j, hj with
          | 0, hj => simp at hj; subst hj; simp [Addr.add]
        case c2 => intro u hu; simp at hu; subst hu; rfl
        case c3 => unfold maxLen; omega
        case c4 => omega
        case c5 => have := hb.size; simp; omega
        intro v' w1 hown' hgrow _
        rw [HP.out] at hown'
        have hb1 : Below w.heap.size w w1 := (hb.alloc hb.size _).grown hgrow (by have := hb.size; simp; omega) (fun g hg => (HO.out.lt g hg).1)
        have HW : Hid (w1.ownsRow w.heap.size 9 1 v' ((spF c (s.data.toList.take k)).1.length + 1) (strs (spF c (s.data.toList.take k)).1 ++ [.string ⟨(spF c (s.data.toList.take k)).2.toArray⟩])) := hown'
        clear hown' hgrow HO
        go_wp2
        go_roundw
        case rel =>
          refine ⟨k + 1, k + 1, v', by omega, by omega, by go_num, by go_num, rfl, Or.inr ⟨by omega, ?_⟩, hb1⟩
          have e : s.data.toList.take k = s.data.toList := List.take_of_length_le (by simp; omega)
          have hw := HW.out
          rw [e] at hw
          rw [← spF_split]
          simpa [strs] using hw
        case measure => simp [intOf]; omega
    · have hgt : ¬ ((k : Int) ≤ (s.size : Int)) := by omega
      have HO : Hid (wr.ownsRow w.heap.size 9 1 v (Tx.splitC c s.data.toList).length (strs (Tx.splitC c s.data.toList))) := hown
      clear hown
      go_wp2
      go_ret
      exact ⟨_, rfl, HO.out, hb⟩
end St
end Go.Proofs.YtnlanikjlokboaaGreatDoor
