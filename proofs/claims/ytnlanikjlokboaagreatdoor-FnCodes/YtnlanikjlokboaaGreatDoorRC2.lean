/- The contract of the other side's reading of code. -/
import Derived.Test.YtnlanikjlokboaaGreatDoorRC1
import Derived.Test.YtnlanikjlokboaaGreatDoorSRead
namespace Go.Proofs.YtnlanikjlokboaaGreatDoor
namespace St
open Go.ChangeShapes Go.WideShapes Go.ChangeAt Go.RowKit

set_option maxRecDepth 100000 in
set_option maxHeartbeats 1000000 in
theorem specReadC (s : ByteArray) (w : World) (hs : s.size ≤ 2000000) :
    Calls Tryz.prog 9 #[.string s] w fun e w' => ∃ v, e = .returned (.tuple #[v, .bool (Tx.readC s.data.toList).isSome]) ∧ Got w.heap.size w' v (insL (Tx.readC s.data.toList)) ∧ Below w.heap.size w w' := by
  obtain ⟨i0, hi, hz0, hz1, hz2⟩ := info_parts infoI
  have hsl : s.data.toList.length = s.size := by simp
  cases he : s.toList.isEmpty
  · have hne : s.data.toList ≠ [] := by rw [Lib.toList_data] at he; exact fun e => by rw [e] at he; simp at he
    by_cases hbig : (1000 : Int) < (s.size : Int)
    · have HN : Hid (Tx.readC s.data.toList = none) := by
        show Tx.readC s.data.toList = none
        cases h : Tx.readC s.data.toList with
        | none => rfl
        | some l => have := Tx.readC_len h; omega
      clear hne hsl
      go_enter Tryz.func9, Tryz.ntmps9
      go_wp2
      go_ret2
      exact ⟨_, by rw [HN.out]; rfl, by rw [HN.out]; exact got_nil w _ (Nat.le_refl _) _, (Below.refl _ _).alloc (Nat.le_refl _) _⟩
    · have HQ : Hid (Tx.readC s.data.toList = if (Tx.splitC 32 s.data.toList).length > 40 then none else Tx.allRead (Tx.splitC 32 s.data.toList)) := by
        show Tx.readC s.data.toList = _
        unfold Tx.readC; rw [if_neg hne]
      have hpl : ∀ p ∈ Tx.splitC 32 s.data.toList, p.length ≤ 1000 := fun p hp => by have := piece_len 32 s.data.toList p hp; omega
      have HPL : Hid (∀ p ∈ Tx.splitC 32 s.data.toList, p.length ≤ 1000) := hpl
      have hlen : 1 ≤ (Tx.splitC 32 s.data.toList).length := by rw [Tx.splitC_len]; omega
      have hlen2 : (Tx.splitC 32 s.data.toList).length ≤ 1001 := by
        rw [Tx.splitC_len]
        have := List.count_le_length (a := (32 : UInt8)) (l := s.data.toList)
        omega
      clear hne hsl hpl
      go_enter Tryz.func9, Tryz.ntmps9
      go_wp2_with fail
      refine (split_at s hs 32 _).mono ?_
      rintro e w1 ⟨v, rfl, hown, hb1⟩
      obtain ⟨g, cap, rfl, hBg, hg, hcap, hcells⟩ := owned hown hlen
      have HSS : Hid (w1.ownsRow w.heap.size 9 1 (.slice (some ⟨g, 0, none⟩) (Tx.splitC 32 s.data.toList).length cap) (Tx.splitC 32 s.data.toList).length (strs (Tx.splitC 32 s.data.toList))) := by
        show World.ownsRow _ _ _ _ _ _ _
        exact own_base hown (by simp)
      have hw1 : Below w.heap.size w w1 := below_over ((Below.refl _ _).alloc (Nat.le_refl _) _) hb1
      have HO0 : Hid (w1.ownsRow w.heap.size 33 3 (.slice (some ⟨w.heap.size, 0, none⟩) 0 0) 0 (flat [])) :=
        (World.ownsRow_made w #[] 0 (Nat.le_refl _) (by decide) (by simp)).kept (row := none) ⟨hb1.os, hb1.tape, hb1.output, hb1.size, fun q hq _ => hb1.block q hq⟩ (Or.inr (by simp [Value.ownBlock]))
      clear hown hcells hb1 hBg hg
      generalize hP : Tx.splitC 32 s.data.toList = P at *
      clear hP
      generalize hn : P.length = n at *
      go_wp2
      go_loopw [4, 6] (fun v i wr => ∃ (k : Nat) (v0 : Value) (lk : List Tx.Ins), k ≤ n ∧ k ≤ 40 ∧ i = .int .i64 k ∧ v0 = v ∧ Hid (wr.ownsRow w.heap.size 33 3 v0 k (flat lk)) ∧ Hid (v0 ≠ .slice none 0 0) ∧ Hid (Tx.allRead (P.take k) = some lk) ∧ Hid (wr.ownsRow w.heap.size 9 1 (.slice (some ⟨g, 0, none⟩) n cap) n (strs P)) ∧ Below w.heap.size w wr) (fun _ i _ => n - (intOf i).toNat)
      case atStart => exact ⟨0, _, [], Nat.zero_le _, by omega, rfl, rfl, HO0.out, by show _ ≠ _; simp, rfl, HSS.out, hw1⟩
      case round =>
        obtain ⟨k, v, lk, hk, hk40, rfl, rfl, hown, hvn, hall, hstr, hb⟩ := hrel
        by_cases hlt : k < n
        · have hlp : k < P.length := by omega
          have c0 : wr.cell? ⟨g, k, none⟩ = some (.string ⟨P[k].toArray⟩) := by
            have h1 := World.ownsRow.cells hstr.out (g := g) rfl k _ (strs_at hlp)
            simp only [Go.WideShapes.add_plain, Nat.zero_add] at h1
            simpa [hlp] using h1
          have hps : P[k].length ≤ 1000 := HPL.out _ (List.getElem_mem hlp)
          have HT : Hid (P.take (k + 1) = P.take k ++ [P[k]]) := List.take_succ_eq_append_getElem hlp
          have HZ : Hid (Tx.readI P[k] = none → Tx.allRead P = none) := allRead_none hlp
          generalize P[k] = pk at *
          have hki : (k : Int) < (n : Int) := by omega
          go_wp2_with fail
          refine (specRead ⟨pk.toArray⟩ (by rw [mk_size]; omega) _).mono ?_
          have epk : (⟨pk.toArray⟩ : ByteArray).data.toList = pk := rfl
          rw [epk]
          clear epk
          rintro e w2 ⟨rfl, hb2⟩
          have hw2 : Below w.heap.size w w2 := below_over hb hb2
          have HO2 : Hid (w2.ownsRow w.heap.size 33 3 v k (flat lk)) := hown.out.kept (row := none) ⟨hb2.os, hb2.tape, hb2.output, hb2.size, fun q hq _ => hb2.block q hq⟩ (by
            cases hx : v.ownBlock with
            | none => exact Or.inl rfl
            | some g => exact Or.inr (by simp))
          have HS2 : Hid (w2.ownsRow w.heap.size 9 1 (.slice (some ⟨g, 0, none⟩) n cap) n (strs P)) := keep_own hstr.out hb2
          clear hb2 hown c0 hb hstr
          unfold insV
          cases hri : Tx.readI pk with
          | none =>
            have HN : Hid (Tx.readC s.data.toList = none) := by
              show Tx.readC s.data.toList = none
              rw [HQ.out, HZ.out hri]; split <;> rfl
            clear HQ HZ
            simp only [opR, aR, bR, Option.isSome]
            go_wp2
            go_ret2
            exact ⟨_, by rw [HN.out]; rfl, by rw [HN.out]; exact got_nil2 w2 _ _ hw2.size _, (hw2.alloc hw2.size _).alloc (by have := hw2.size; simp; omega) _⟩
          | some x =>
            have HA : Hid (Tx.allRead (P.take (k + 1)) = some (lk ++ [x])) := by
              show Tx.allRead _ = _
              rw [HT.out, allRead_snoc, hall.out, hri]
            obtain ⟨op, a, b⟩ := x
            clear hall HT HZ hri
            simp only [opR, aR, bR, Option.isSome]
            by_cases hk4 : k = 40
            · have HN : Hid (Tx.readC s.data.toList = none) := by
                show Tx.readC s.data.toList = none
                rw [HQ.out, if_pos (by omega)]
              have hq : ((k : Int) == 40) = true := by rw [hk4]; rfl
              have HK4 : Hid (k = 40) := hk4
              clear HQ hk4
              go_wp2
              go_ret2
              exact ⟨_, by rw [HN.out]; rfl, by rw [HN.out]; exact got_nil2 w2 _ _ hw2.size _, (hw2.alloc hw2.size _).alloc (by have := hw2.size; simp; omega) _⟩
            · have hq : ((k : Int) == 40) = false := by simp; omega
              go_wp2_with (at_builtin; refine wpList_append_own _ rfl _ _ 24 rfl w.heap.size 33 i0 (.agg #[.int .i64 0, .int .i64 0, .int .i64 0]) 3 24 Tryz.underlying24 hi hz0 hz1 hz2 rfl (by decide) _ _ _ rfl ((HO2.out.alloc _).alloc _) ⟨w2.heap.size + 1, 0, none⟩ 1 1 [.int .i64 op, .int .i64 a, .int .i64 b] rfl rfl ?c1 ?c2 ?c3 ?c4 ?c5 ?_)
              case c1 =>
                intro j u hj
                match j, hj with
                | 0, hj => simp at hj; subst hj; simp [Addr.add]
                | 1, hj => simp at hj; subst hj; simp [Addr.add]
                | 2, hj => simp at hj; subst hj; simp [Addr.add]
              case c2 => intro u hu; simp at hu; rcases hu with rfl | rfl | rfl <;> rfl
              case c3 => unfold maxLen; omega
              case c4 => omega
              case c5 => have := hw2.size; simp; omega
              intro v' w3 hown' hgrow hnil
              have hb3 : Below w.heap.size w w3 := ((hw2.alloc hw2.size _).alloc (by have := hw2.size; simp; omega) _).grown hgrow (by have := hw2.size; simp; omega) (fun g hg => (HO2.out.lt g hg).1)
              have HV : Hid (v' ≠ .slice none 0 0) := by
                show _ ≠ _
                intro h
                exact hnil h
              have HS3 : Hid (w3.ownsRow w.heap.size 9 1 (.slice (some ⟨g, 0, none⟩) n cap) n (strs P)) :=
                ((HS2.out.alloc _).alloc _).kept hgrow (Or.inr (fun e => own_ne HS2.out HO2.out (by decide) (g := g) rfl e.symm))
              have HW : Hid (w3.ownsRow w.heap.size 33 3 v' (k + 1) (flat lk ++ [.int .i64 op, .int .i64 a, .int .i64 b])) := hown'
              clear hown' hgrow hnil HO2 hw2 HS2
              go_wp2
              go_roundw
              case rel =>
                refine ⟨k + 1, v', lk ++ [(op, a, b)], by omega, by omega, by go_num, rfl, ?_, HV.out, HA.out, HS3.out, hb3⟩
                show w3.ownsRow _ _ _ _ _ _
                rw [flat_snoc]; exact HW.out
              case measure => simp [intOf]; omega
        · have e : P.take k = P := List.take_of_length_le (by omega)
          have HR : Hid (Tx.readC s.data.toList = some lk) := by
            show Tx.readC s.data.toList = some lk
            rw [HQ.out, if_neg (by omega), ← e]; exact hall.out
          have HLK : Hid (lk.length = k) := by
            show lk.length = k
            rw [allRead_len hall.out, List.length_take]; omega
          clear hall e HQ
          go_wp2
          go_ret2
          refine ⟨_, by rw [HR.out]; rfl, ?_, hb⟩
          rw [HR.out]
          have ho := hown.out
          rw [← HLK.out] at ho
          exact got_of ho hvn.out
  · have hs0 : s.data.toList = [] := by rw [Lib.toList_data] at he; exact List.isEmpty_iff.1 he
    rw [hs0]
    clear hsl
    go_enter Tryz.func9, Tryz.ntmps9
    go_wp2
    go_ret2
    exact ⟨_, rfl, got_nil w _ (Nat.le_refl _) _, (Below.refl _ _).alloc (Nat.le_refl _) _⟩
end St
end Go.Proofs.YtnlanikjlokboaaGreatDoor
