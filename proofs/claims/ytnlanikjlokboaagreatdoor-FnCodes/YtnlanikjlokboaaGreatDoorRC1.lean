/- The contract of the program's reading of code. -/
import Derived.Test.YtnlanikjlokboaaGreatDoorRC0
import Derived.Test.YtnlanikjlokboaaGreatDoorRead1
namespace Go.Proofs.YtnlanikjlokboaaGreatDoor
namespace St
open Go.ChangeShapes Go.WideShapes Go.ChangeAt Go.RowKit

def parts (s : ByteArray) : List ByteArray := Lib.splitB ⟨#[32]⟩ 0 (min 41 (s.size + 1) - 1) s
theorem parts_data (s : ByteArray) : (parts s).map (·.data.toList) = Tx.piecesI s.data.toList := by
  unfold parts Tx.piecesI
  rw [Lib.splitB_data]
  have e : s.data.toList.length = s.size := by simp
  rw [e]
theorem parts_len (s : ByteArray) : (parts s).length = (Tx.piecesI s.data.toList).length := by rw [← parts_data, List.length_map]
theorem parts_at (s : ByteArray) (k : Nat) (hk : k < (parts s).length) : (parts s)[k].data.toList = (Tx.piecesI s.data.toList)[k]'(by rw [← parts_len]; exact hk) := by
  have h : ((parts s).map (·.data.toList))[k]? = (Tx.piecesI s.data.toList)[k]? := by rw [parts_data]
  rw [List.getElem?_map, List.getElem?_eq_getElem hk, List.getElem?_eq_getElem (by rw [← parts_len]; exact hk)] at h
  simpa using h
theorem splitK_len (c : UInt8) : ∀ (k : Nat) (l : List UInt8), ∀ p ∈ Lib.splitK [c] 0 k l, p.length ≤ l.length
  | 0, l, p, h => by simp [Lib.splitK] at h; subst h; exact Nat.le_refl _
  | k + 1, l, p, h => by
    unfold Lib.splitK at h
    split at h
    · simp at h; subst h; exact Nat.le_refl _
    · rcases List.mem_cons.1 h with rfl | h
      · rw [List.length_take]; omega
      · have := splitK_len c k _ p h
        rw [List.length_drop] at this; omega
theorem part_size (s : ByteArray) (k : Nat) (hk : k < (parts s).length) : (parts s)[k].size ≤ s.size := by
  have e1 : (parts s)[k].data.toList.length = (parts s)[k].size := by simp
  have e2 : s.data.toList.length = s.size := by simp
  rw [← e1, ← e2, parts_at s k hk]
  exact splitK_len 32 _ _ _ (List.getElem_mem _)
theorem part_cell (s : ByteArray) (N k : Nat) (hk : k < (parts s).length) : (Lib.cellsOf (parts s) N)[k]? = some (.string (parts s)[k]) := by
  unfold Lib.cellsOf
  rw [List.getElem?_toArray, List.getElem?_append_left (by rw [List.length_map]; exact hk), List.getElem?_map, List.getElem?_eq_getElem hk]
  rfl
theorem parts_le (s : ByteArray) : (parts s).length ≤ min 41 (s.size + 1) := by
  have := Lib.splitB_length_le ⟨#[32]⟩ 0 (min 41 (s.size + 1) - 1) s
  unfold parts; omega

set_option maxRecDepth 100000 in
set_option maxHeartbeats 1000000 in
theorem implReadC (s : ByteArray) (hs : s.size ≤ 2000000) (B : Nat) (w : World) (hB : B ≤ w.heap.size) (hE : Env B w) :
    Calls Tryz.prog 8 #[.string s] w fun e w' => ∃ v, e = .returned (.tuple #[v, .bool (Tx.readC s.data.toList).isSome]) ∧ Got w.heap.size w' v (insL (Tx.readC s.data.toList)) ∧ Below w.heap.size w w' := by
  obtain ⟨i0, hi, hz0, hz1, hz2⟩ := info_parts infoI
  have HE : Hid (Env B w) := hE
  have HB : Hid (B ≤ w.heap.size) := hB
  clear hE hB
  cases he : s.toList.isEmpty
  · have hne : s.data.toList ≠ [] := by rw [Lib.toList_data] at he; exact fun e => by rw [e] at he; simp at he
    have HP : Hid (Tx.readC s.data.toList = if (parts s).length > 40 then none else Tx.allRead (Tx.piecesI s.data.toList)) := by
      show Tx.readC s.data.toList = _
      rw [readC_pieces hne, parts_len]
    clear hne
    have hple := parts_le s
    obtain ⟨m, hm, hmB⟩ := HE.out.maxLen
    have hc := Tryz.strings_SplitN s ⟨#[32]⟩ 41 m w (by omega) hm (by decide) (by omega) (by omega)
    have HC : Hid (Calls Tryz.prog 19 #[.string s, .string ⟨#[32]⟩, .int .i64 41] w fun e w' => e = .returned (.slice (some ⟨w.heap.size, 0, none⟩) (parts s).length (min 41 (s.size + 1))) ∧ w' = w.alloc (.cells (Lib.cellsOf (parts s) (min 41 (s.size + 1))) 9)) := hc
    clear hc hm hmB
    by_cases hbig : (40 : Int) < ((parts s).length : Int)
    · have HN : Hid (Tx.readC s.data.toList = none) := by
        show Tx.readC s.data.toList = none
        rw [HP.out, if_pos (by omega)]
      clear HP
      go_enter Tryz.func8, Tryz.ntmps8
      go_wp2_with fail
      refine HC.out.mono ?_
      rintro e w1 ⟨rfl, hw1⟩
      have hb1 : Below w.heap.size w w1 := by rw [hw1]; exact (Below.refl _ _).alloc (Nat.le_refl _) _
      clear hw1
      go_wp2
      go_ret2
      exact ⟨_, by rw [HN.out]; rfl, by rw [HN.out]; exact got_nil w1 _ hb1.size _, hb1.alloc hb1.size _⟩
    · have HQ : Hid (Tx.readC s.data.toList = Tx.allRead (Tx.piecesI s.data.toList)) := by
        show Tx.readC s.data.toList = _
        rw [HP.out, if_neg (by omega)]
      clear HP
      go_enter Tryz.func8, Tryz.ntmps8
      go_wp2_with fail
      refine HC.out.mono ?_
      rintro e w1 ⟨rfl, hw1⟩
      have hb1 : Below w.heap.size w w1 := by rw [hw1]; exact (Below.refl _ _).alloc (Nat.le_refl _) _
      have HS : Hid (∀ k (hk : k < (parts s).length), w1.cell? ⟨w.heap.size, k, none⟩ = some (.string (parts s)[k])) := by
        show ∀ k (hk : k < (parts s).length), _
        intro k hk
        have := part_cell s (min 41 (s.size + 1)) k hk
        rw [hw1]
        simpa using this
      have hsz : w1.heap.size = w.heap.size + 1 := by rw [hw1]; simp
      have HSZ : Hid (w1.heap.size = w.heap.size + 1) := hsz
      clear hw1 hsz
      have HPL : Hid ((parts s).length = (Tx.piecesI s.data.toList).length) := parts_len s
      obtain ⟨n, hn⟩ : ∃ n, n = (parts s).length := ⟨_, rfl⟩
      rw [← hn] at hbig hple ⊢
      have HN0 : Hid (n = (parts s).length) := hn
      clear hn
      go_wp2
      go_loopw [5, 22] (fun v i wr => ∃ (k : Nat) (v0 : Value) (lk : List Tx.Ins), k ≤ n ∧ i = .int .i64 k ∧ v0 = v ∧ Hid (wr.ownsRow w1.heap.size 33 3 v0 k (flat lk)) ∧ Hid (v0 ≠ .slice none 0 0) ∧ Hid (Tx.allRead ((Tx.piecesI s.data.toList).take k) = some lk) ∧ Below w1.heap.size w1 wr) (fun _ i _ => n - (intOf i).toNat)
      case atStart =>
        refine ⟨0, _, [], Nat.zero_le _, rfl, rfl, ?_, by show _ ≠ _; simp, rfl, (Below.refl _ _).alloc (Nat.le_refl _) _⟩
        exact World.ownsRow_made w1 #[] 0 (Nat.le_refl _) (by decide) (by simp)
      case round =>
        obtain ⟨k, v, lk, hk, rfl, rfl, hown, hvn, hall, hb⟩ := hrel
        have hwr : Below w.heap.size w wr := below_over hb1 hb
        by_cases hlt : k < n
        · have hlp : k < (parts s).length := by have := HN0.out; omega
          have hlq : k < (Tx.piecesI s.data.toList).length := by have := HPL.out; have := HN0.out; omega
          have c0 := (hb.cell (cell_lt (HS.out k hlp))).trans (HS.out k hlp)
          have hps := part_size s k hlp
          have hpa := parts_at s k hlp
          have HT : Hid ((Tx.piecesI s.data.toList).take (k + 1) = (Tx.piecesI s.data.toList).take k ++ [(Tx.piecesI s.data.toList)[k]]) := List.take_succ_eq_append_getElem hlq
          have HZ : Hid (Tx.readI (Tx.piecesI s.data.toList)[k] = none → Tx.allRead (Tx.piecesI s.data.toList) = none) := allRead_none hlq
          have HLK : Hid (lk.length = k) := by
            show lk.length = k
            rw [allRead_len hall.out, List.length_take]; omega
          generalize (Tx.piecesI s.data.toList)[k] = pk at *
          generalize (parts s)[k] = t at *
          have HTP : Hid (t.data.toList = pk) := hpa
          clear hpa
          have hki : (k : Int) < (n : Int) := by omega
          go_wp2_with fail
          refine (implRead t (by omega) B _ (Nat.le_trans HB.out hwr.size) (HE.out.on (hwr.mono HB.out))).mono ?_
          rw [HTP.out]
          rintro e w2 ⟨rfl, hb2⟩
          have hw2 : Below w1.heap.size w1 w2 := below_over hb hb2
          have HO2 : Hid (w2.ownsRow w1.heap.size 33 3 v k (flat lk)) := hown.out.kept (row := none) ⟨hb2.os, hb2.tape, hb2.output, hb2.size, fun q hq _ => hb2.block q hq⟩ (by
            cases hx : v.ownBlock with
            | none => exact Or.inl rfl
            | some g => exact Or.inr (by simp))
          clear hb2 hown c0 hb hwr
          unfold insV
          cases hri : Tx.readI pk with
          | none =>
            have HN : Hid (Tx.readC s.data.toList = none) := by
              show Tx.readC s.data.toList = none
              rw [HQ.out, HZ.out hri]
            clear HQ HZ
            have hwz : Below w.heap.size w w2 := below_over hb1 hw2
            simp only [opR, aR, bR, Option.isSome]
            go_wp2
            go_ret2
            exact ⟨_, by rw [HN.out]; rfl, by rw [HN.out]; exact got_nil2 w2 _ _ hwz.size _, (hwz.alloc hwz.size _).alloc (by have := hwz.size; simp; omega) _⟩
          | some x =>
            have HA : Hid (Tx.allRead ((Tx.piecesI s.data.toList).take (k + 1)) = some (lk ++ [x])) := by
              show Tx.allRead _ = _
              rw [HT.out, allRead_snoc, hall.out, hri]
            obtain ⟨op, a, b⟩ := x
            have hk40 : k ≤ 40 := by omega
            clear hall HT HZ hri
            simp only [opR, aR, bR, Option.isSome]
            go_wp2_with (at_builtin; refine wpList_append_own _ rfl _ _ 24 rfl w1.heap.size 33 i0 (.agg #[.int .i64 0, .int .i64 0, .int .i64 0]) 3 24 Tryz.underlying24 hi hz0 hz1 hz2 rfl (by decide) _ _ _ rfl ((HO2.out.alloc _).alloc _) ⟨w2.heap.size + 1, 0, none⟩ 1 1 [.int .i64 op, .int .i64 a, .int .i64 b] rfl rfl ?c1 ?c2 ?c3 ?c4 ?c5 ?_)
            case c1 =>
              intro j u hj
              match j, hj with
              | 0, hj => simp at hj; subst hj; simp [Addr.add]
              | 1, hj => simp at hj; subst hj; simp [Addr.add]
              | 2, hj => simp at hj; subst hj; simp [Addr.add]
            case c2 => intro u hu; simp at hu; rcases hu with rfl | rfl | rfl <;> rfl
            case c3 => unfold maxLen; omega
            case c4 => omega
            case c5 => have := hw2.size; simp; omega
            intro v' w3 hown' hgrow hnil
            have hb3 : Below w1.heap.size w1 w3 := ((hw2.alloc hw2.size _).alloc (by have := hw2.size; simp; omega) _).grown hgrow (by have := hw2.size; simp; omega) (fun g hg => (HO2.out.lt g hg).1)
            have HV : Hid (v' ≠ .slice none 0 0) := by
              show _ ≠ _
              intro h
              exact hnil h
            have HW : Hid (w3.ownsRow w1.heap.size 33 3 v' (k + 1) (flat lk ++ [.int .i64 op, .int .i64 a, .int .i64 b])) := hown'
            clear hown' hgrow hnil HO2 hw2
            go_wp2
            go_roundw
            case rel =>
              refine ⟨k + 1, v', lk ++ [(op, a, b)], by omega, by go_num, rfl, ?_, HV.out, HA.out, hb3⟩
              show w3.ownsRow _ _ _ _ _ _
              rw [flat_snoc]; exact HW.out
            case measure => simp [intOf]; omega
        · have e : (Tx.piecesI s.data.toList).take k = Tx.piecesI s.data.toList := List.take_of_length_le (by have := HPL.out; have := HN0.out; omega)
          have HR : Hid (Tx.readC s.data.toList = some lk) := by
            show Tx.readC s.data.toList = some lk
            rw [HQ.out, ← e]; exact hall.out
          have HLK : Hid (lk.length = k) := by
            show lk.length = k
            rw [allRead_len hall.out, List.length_take]; have := HPL.out; have := HN0.out; omega
          clear hall e HQ
          go_wp2
          go_ret2
          refine ⟨_, by rw [HR.out]; rfl, ?_, hwr⟩
          rw [HR.out]
          have ho := hown.out
          rw [← HLK.out] at ho
          obtain ⟨g, cap, hv, h1, h2, h3, h4⟩ := got_of ho hvn.out
          exact ⟨g, cap, hv, by have := HSZ.out; omega, h2, h3, h4⟩
  · have hs0 : s.data.toList = [] := by rw [Lib.toList_data] at he; exact List.isEmpty_iff.1 he
    rw [hs0]
    go_enter Tryz.func8, Tryz.ntmps8
    go_wp2
    go_ret2
    exact ⟨_, rfl, got_nil w _ (Nat.le_refl _) _, (Below.refl _ _).alloc (Nat.le_refl _) _⟩
end St
end Go.Proofs.YtnlanikjlokboaaGreatDoor
