/- Contracts: what is swept, the specification's side. -/
import Derived.Test.YtlbjnlkeagmpoaaTh3
import Derived.Test.YtlbjnlkeagmpoaaTh4
namespace Go.Proofs.Ytlbjnlkeagmpoaa
namespace Pg
open Go.ChangeShapes Go.WideShapes Go.ChangeAt Go.RowKit St

set_option maxRecDepth 100000 in
set_option maxHeartbeats 4000000 in
theorem l12Swept_at (g yc : Nat) (code : List Tx.Ins) (hok : Lay.codeOk code = true) (w : World) (hrow : Row w g 0 code) :
    Calls Try.prog 39 #[.slice (some ⟨g, 0, none⟩) code.length yc] w fun e w' => ∃ x, e = .returned x ∧ GrowC w.heap.size w' x (swpF code) ∧ Below w.heap.size w w' := by
  have hl40 := (Lay.ok_len hok).2
  have hl0 := (Lay.ok_len hok).1
  have hli : (code.length : Int) ≤ 40 := by omega
  have HR : Hid (Row w g 0 code) := hrow
  have HOK : Hid (Lay.codeOk code = true) := hok
  clear hrow hok
  go_enter Try.func39, Try.ntmps39
  go_wp2_with fail
  refine (l12Stays_at g yc code HOK.out w HR.out).mono ?_
  rintro e w2 ⟨v, rfl, hgv, hb2⟩
  obtain ⟨gr, cap, rfl⟩ := hgv.form
  obtain ⟨_, _, hvv, _, hgr2, hir, _⟩ := hgv.gint
  obtain ⟨rfl, rfl⟩ : _ = _ ∧ _ = _ := by simpa using hvv
  have HIR : Hid (IRow w2 gr 0 (risL (stB code) 40)) := hir
  have HG0 : Hid (GrowC w2.heap.size (w2.alloc (.cells #[] 38)) (.slice (some ⟨w2.heap.size, 0, none⟩) 0 0) []) := growC_nil w2
  have hw0 : Below w.heap.size w (w2.alloc (.cells #[] 38)) := hb2.alloc hb2.size _
  have hlen : (risL (stB code) 40).length ≤ 40 := risL_len _ _
  have hlen' : ((risL (stB code) 40).length : Int) ≤ 40 := by omega
  have HMEM : Hid (∀ x ∈ risL (stB code) 40, ∃ j : Nat, j < code.length ∧ rchB code j = true ∧ x = (j : Int)) := fun x hx => by
    obtain ⟨j, _, hj, e⟩ := risL_mem.1 hx
    refine ⟨j, stB_lt hl0 hj, ?_, e⟩
    unfold stB at hj
    simp only [Bool.and_eq_true] at hj
    exact hj.1
  have HAL : Hid (∀ (n i : Nat), n ≤ 40 → i < ahd (stB code) n → ∃ x : Int, (risL (stB code) 40)[i]? = some x ∧ x < n) := fun n i hn hi => ahd_lt hn hi
  have HAG : Hid (∀ n : Nat, n ≤ 40 → ahd (stB code) n < (risL (stB code) 40).length → ∃ x : Int, (risL (stB code) 40)[ahd (stB code) n]? = some x ∧ (n : Int) ≤ x) := fun n hn hi => ahd_ge hn hi
  have HJY : Hid (∀ j, rchB code j = true → Lay.jumpB (insF code j).1 = true → 0 ≤ (insF code j).2.1 ∧ (insF code j).2.1 < code.length ∧ ahd (stB code) (insF code j).2.1.toNat < (risL (stB code) 40).length) := fun j h1 h2 => jump_stay HOK.out h1 h2
  have HSS : Hid (∀ k (hk : k < (risL (stB code) 40).length), ((risL (stB code) 40).take (k + 1)).map (fun x => swpI code x.toNat) = ((risL (stB code) 40).take k).map (fun x => swpI code x.toNat) ++ [swpI code ((risL (stB code) 40)[k]).toNat]) := fun k hk => swp_succ hk
  have HEND : Hid (swpF code = ((risL (stB code) 40).take (risL (stB code) 40).length).map (fun x => swpI code x.toNat)) := by show _ = _; rw [List.take_length]; rfl
  have hwb : w.heap.size ≤ w2.heap.size := hb2.size
  clear hgv hb2 hir
  generalize hLL : risL (stB code) 40 = L at *
  clear hLL
  go_wp2
  go_loopw [4, 5] (fun v i wr => ∃ k : Nat, k ≤ L.length ∧ i = .int .i64 k ∧ Hid (GrowC w2.heap.size wr v ((L.take k).map (fun x => swpI code x.toNat))) ∧ Hid (wr.heap[gr]? = w2.heap[gr]?) ∧ w2.heap.size ≤ wr.heap.size ∧ Below w.heap.size w wr) (fun _ i _ => L.length - (intOf i).toNat)
  case atStart => exact ⟨0, Nat.zero_le _, rfl, by show GrowC _ _ _ _; simpa using HG0.out, ((Below.refl w2.heap.size w2).alloc (Nat.le_refl _) _).block gr hgr2, by simp, hw0⟩
  case round =>
    clear HG0 hw0
    obtain ⟨k, hk, rfl, hg, hsr, hsz, hb⟩ := hrel
    obtain ⟨gs, cs, rfl⟩ := hg.out.form
    by_cases hlt : k < L.length
    · have hki : (k : Int) < (L.length : Int) := by omega
      obtain ⟨j, hj, hrj, hxj⟩ := HMEM.out _ (List.getElem_mem hlt)
      have c0 := (irow_same hsr.out HIR.out) k _ (List.getElem?_eq_getElem hlt)
      rw [Nat.zero_add, hxj] at c0
      have hji : (j : Int) < (code.length : Int) := by omega
      have HST : Hid ((L.take (k + 1)).map (fun x => swpI code x.toNat) = (L.take k).map (fun x => swpI code x.toNat) ++ [swpI code j]) := by show _ = _; rw [HSS.out k hlt, hxj, Int.toNat_natCast]
      have hlk : ((L.take k).map (fun x => swpI code x.toNat)).length = k := by rw [List.length_map, List.length_take]; omega
      obtain ⟨d0, d1, d2⟩ := (HR.out.on hb) j _ (ins_is hj)
      have HJS : Hid (Lay.jumpB (insF code j).1 = true → 0 ≤ (insF code j).2.1 ∧ (insF code j).2.1 < code.length ∧ ahd (stB code) (insF code j).2.1.toNat < L.length) := fun h => HJY.out j hrj h
      have HSW : Hid (swpI code j = if Lay.jumpB (insF code j).1 then ((insF code j).1, (ahd (stB code) (insF code j).2.1.toNat : Int), (insF code j).2.2) else insF code j) := rfl
      generalize insF code j = ins at *
      obtain ⟨op, A, b⟩ := ins
      dsimp only at d0 d1 d2 HJS HSW
      simp only [Nat.zero_add] at d0 d1 d2
      obtain ⟨X0, hX0⟩ : ∃ X0, X0 = wr.alloc (.cells #[.int .i64 op, .int .i64 A, .int .i64 b] 38) := ⟨_, rfl⟩
      have hb0 : Below wr.heap.size wr X0 := by rw [hX0]; exact (Below.refl _ _).alloc (Nat.le_refl _) _
      have F5 : Hid (Cells X0 wr.heap.size [.int .i64 op, .int .i64 A, .int .i64 b]) := by show Cells _ _ _; rw [hX0]; exact Cells.new wr _ rfl _ _
      have HX0 : Hid (X0 = wr.alloc (.cells #[.int .i64 op, .int .i64 A, .int .i64 b] 38)) := hX0
      have HREST : Hid (∀ (W5 : World), Below wr.heap.size wr W5 →
          GrowC w2.heap.size W5 (.slice (some ⟨gs, 0, none⟩) ((L.take k).map (fun x => swpI code x.toNat)).length cs) ((L.take k).map (fun x => swpI code x.toNat)) ∧ W5.heap[gr]? = w2.heap[gr]? ∧ w2.heap.size ≤ W5.heap.size ∧ Below w.heap.size w W5) := fun W5 hb5 =>
        ⟨hg.out.on hb5, (hb5.block gr (by omega)).trans hsr.out, Nat.le_trans hsz hb5.size, below_over hb hb5⟩
      clear hX0 hxj
      have HLK : Hid (((L.take k).map (fun x => swpI code x.toNat)).length = k) := hlk
      rw [hlk] at HREST
      rw [hlk]
      clear hlk
      go_wp2_with fail
      rw [← HX0.out]
      refine (l3Jump op X0).mono ?_
      rintro e _ ⟨rfl, rfl⟩
      clear HX0 d0 d1 d2 c0
      cases hjb : Lay.jumpB op
      · have HQ : Hid (swpI code j = (op, A, b)) := by show _ = _; rw [HSW.out, hjb]; rfl
        obtain ⟨R1, R2, R4, R5⟩ := HREST.out X0 hb0
        clear HREST HSW HJS hjb hb0
        obtain ⟨f0, _⟩ := F5.out.g0
        obtain ⟨f1, _⟩ := F5.out.g1
        obtain ⟨f2, _⟩ := F5.out.g2
        have HG6 : Hid (GrowC w2.heap.size (X0.alloc (.cells #[.int .i64 op, .int .i64 A, .int .i64 b] 38)) (.slice (some ⟨gs, 0, none⟩) k cs) ((L.take k).map (fun x => swpI code x.toNat))) := R1.on ((Below.refl _ _).alloc (Nat.le_refl _) _)
        have HRN : Hid (Row (X0.alloc (.cells #[.int .i64 op, .int .i64 A, .int .i64 b] 38)) X0.heap.size 0 [(op, A, b)]) := row_new3 X0 (op, A, b) _
        have HNE : Hid (some gr ≠ (Value.slice (some ⟨gs, 0, none⟩) k cs).ownBlock) := fun e => by have := (R1.1.lt gr e.symm).1; omega
        have HZ5 : Hid (w2.heap.size ≤ X0.heap.size ∧ gr < X0.heap.size) := ⟨R4, by omega⟩
        have HBA : Hid (Below X0.heap.size X0 (X0.alloc (.cells #[.int .i64 op, .int .i64 A, .int .i64 b] 38))) := (Below.refl _ _).alloc (Nat.le_refl _) _
        have HR2 : Hid (X0.heap[gr]? = w2.heap[gr]?) := R2
        clear R1 R2 F5 hg hsr
        go_wp2_with (at_builtin; refine wpList_growC rfl _ _ rfl w2.heap.size (.slice (some ⟨gs, 0, none⟩) k cs) ((L.take k).map (fun x => swpI code x.toNat)) rfl HG6.out (by have := HZ5.out; simp; omega) X0.heap.size 0 1 [(op, A, b)] rfl HRN.out (by have := HLK.out; simp; omega) ?_)
        intro v9 w9 hg9 hgrow9 hb9
        have HG9 : Hid (GrowC w2.heap.size w9 v9 ((L.take (k + 1)).map (fun x => swpI code x.toNat))) := by
          show GrowC _ _ _ _
          rw [HST.out, HQ.out, List.map_take]
          exact hg9
        have SR : Hid (w9.heap[gr]? = w2.heap[gr]?) := (hgrow9.block gr (Nat.lt_of_lt_of_le HZ5.out.2 HBA.out.size) HNE.out).trans ((HBA.out.block gr HZ5.out.2).trans HR2.out)
        have hz9 : w2.heap.size ≤ w9.heap.size := Nat.le_trans R4 (Nat.le_trans HBA.out.size hb9.size)
        have hw9 : Below w.heap.size w w9 := (below_over R5 HBA.out).trans (hb9.mono hwb)
        clear hg9 hgrow9 hb9 HG6 HRN HNE HZ5 HBA HR2 f0 f1 f2
        go_wp2
        go_roundw
        case rel => exact ⟨k + 1, by omega, by go_num, HG9.out, SR.out, hz9, hw9⟩
        case measure => simp [intOf]; omega
      · obtain ⟨hA0, hA1, hA2⟩ := HJS.out hjb
        obtain ⟨n, rfl⟩ := Int.eq_ofNat_of_zero_le hA0
        rw [Int.toNat_natCast] at hA2
        have hn40 : n ≤ 40 := by omega
        have HQ : Hid (swpI code j = (op, (ahd (stB code) n : Int), b)) := by show _ = _; rw [HSW.out, hjb]; rfl
        have HL1 : Hid (∀ i : Nat, i < ahd (stB code) n → ∃ x : Int, L[i]? = some x ∧ x < n) := fun i hi => HAL.out n i hn40 hi
        obtain ⟨xg, hxg, hng⟩ := HAG.out n hn40 hA2
        have HXG : Hid (L[ahd (stB code) n]? = some xg) := hxg
        generalize ahd (stB code) n = nn at *
        have hnn : (nn : Int) < (L.length : Int) := by omega
        clear HSW HJS hjb hA0 hxg HAL HAG HJY
        have hIX : Hid (∀ W, Below wr.heap.size wr W → IRow W gr 0 L) := fun W hW => irow_same ((hW.block gr (by omega)).trans hsr.out) HIR.out
        obtain ⟨wO, rfl⟩ : ∃ x, x = wr := ⟨_, rfl⟩
        go_wp2
        go_loopw [7] (fun i wl => ∃ m : Nat, m ≤ nn ∧ i = .int .i64 m ∧ Below wO.heap.size wO wl ∧ Hid (Cells wl wO.heap.size [.int .i64 op, .int .i64 (n : Int), .int .i64 b])) (fun i _ => nn - (intOf i).toNat)
        case atStart => exact ⟨0, Nat.zero_le _, rfl, hb0, F5.out⟩
        case round =>
          clear F5 hb0
          obtain ⟨m, hm, rfl, hbl, F5⟩ := hrel
          have hmi : (m : Int) < (L.length : Int) := by omega
          have HNX : Hid (∀ q, Below wO.heap.size wO (wr.drewN q) ∧ Cells (wr.drewN q) wO.heap.size [.int .i64 op, .int .i64 (n : Int), .int .i64 b]) := fun q =>
            have hd : Below wr.heap.size wr (wr.drewN q) := ⟨rfl, rfl, rfl, Nat.le_refl _, fun _ _ => rfl⟩
            ⟨below_over hbl hd, F5.out.on hd⟩
          obtain ⟨e1, _⟩ := F5.out.g1
          by_cases hmn : m < nn
          · obtain ⟨x, hx, hxn⟩ := HL1.out m hmn
            have c1 := hIX.out wr hbl m x hx
            rw [Nat.zero_add] at c1
            clear F5 hbl hx
            go_upto_region 9 with fail
            go_quiet (fail)
            obtain ⟨hb6, F6'⟩ := HNX.out nq
            have F6 : Hid (Cells (wr.drewN nq) wO.heap.size [.int .i64 op, .int .i64 (n : Int), .int .i64 b]) := F6'
            generalize wr.drewN nq = w6 at *
            clear F6' HNX e1 c1
            go_wp2
            go_roundw
            case rel => exact ⟨m + 1, by omega, by go_num, hb6, F6.out⟩
            case measure => simp [intOf]; omega
          · obtain rfl : m = nn := by omega
            have c1 := hIX.out wr hbl m xg HXG.out
            rw [Nat.zero_add] at c1
            have hxn : ¬ xg < (n : Int) := by omega
            clear F5 hbl
            go_upto_region 9 with fail
            go_quiet (fail)
            obtain ⟨hb6, F6'⟩ := HNX.out nq
            generalize wr.drewN nq = w6 at *
            obtain ⟨e3, z3⟩ := F6'.g1
            have F5 : Hid (Cells (w6.setCell ⟨wO.heap.size, 1, none⟩ (.int .i64 (m : Int))) wO.heap.size [.int .i64 op, .int .i64 (m : Int), .int .i64 b]) := F6'.s1 _
            have hw7 : Below wO.heap.size wO (w6.setCell ⟨wO.heap.size, 1, none⟩ (.int .i64 (m : Int))) := hb6.setCell (Nat.le_refl _) _
            obtain ⟨R1, R2, R4, R5⟩ := HREST.out _ hw7
            clear HREST F6' HNX e1 c1 hb6 hw7
            go_upto_region 12 with fail
            generalize w6.setCell ⟨wO.heap.size, 1, none⟩ (.int .i64 (m : Int)) = X0 at *
            clear e3 z3
            obtain ⟨f0, _⟩ := F5.out.g0
            obtain ⟨f1, _⟩ := F5.out.g1
            obtain ⟨f2, _⟩ := F5.out.g2
            have HG6 : Hid (GrowC w2.heap.size (X0.alloc (.cells #[.int .i64 op, .int .i64 (m : Int), .int .i64 b] 38)) (.slice (some ⟨gs, 0, none⟩) k cs) ((L.take k).map (fun x => swpI code x.toNat))) := R1.on ((Below.refl _ _).alloc (Nat.le_refl _) _)
            have HRN : Hid (Row (X0.alloc (.cells #[.int .i64 op, .int .i64 (m : Int), .int .i64 b] 38)) X0.heap.size 0 [(op, (m : Int), b)]) := row_new3 X0 (op, (m : Int), b) _
            have HNE : Hid (some gr ≠ (Value.slice (some ⟨gs, 0, none⟩) k cs).ownBlock) := fun e => by have := (R1.1.lt gr e.symm).1; omega
            have HZ5 : Hid (w2.heap.size ≤ X0.heap.size ∧ gr < X0.heap.size) := ⟨R4, by omega⟩
            have HBA : Hid (Below X0.heap.size X0 (X0.alloc (.cells #[.int .i64 op, .int .i64 (m : Int), .int .i64 b] 38))) := (Below.refl _ _).alloc (Nat.le_refl _) _
            have HR2 : Hid (X0.heap[gr]? = w2.heap[gr]?) := R2
            clear R1 R2 F5 hg hsr
            go_wp2_with (at_builtin; refine wpList_growC rfl _ _ rfl w2.heap.size (.slice (some ⟨gs, 0, none⟩) k cs) ((L.take k).map (fun x => swpI code x.toNat)) rfl HG6.out (by have := HZ5.out; simp; omega) X0.heap.size 0 1 [(op, (m : Int), b)] rfl HRN.out (by have := HLK.out; simp; omega) ?_)
            intro v9 w9 hg9 hgrow9 hb9
            have HG9 : Hid (GrowC w2.heap.size w9 v9 ((L.take (k + 1)).map (fun x => swpI code x.toNat))) := by
              show GrowC _ _ _ _
              rw [HST.out, HQ.out, List.map_take]
              exact hg9
            have SR : Hid (w9.heap[gr]? = w2.heap[gr]?) := (hgrow9.block gr (Nat.lt_of_lt_of_le HZ5.out.2 HBA.out.size) HNE.out).trans ((HBA.out.block gr HZ5.out.2).trans HR2.out)
            have hz9 : w2.heap.size ≤ w9.heap.size := Nat.le_trans R4 (Nat.le_trans HBA.out.size hb9.size)
            have hw9 : Below w.heap.size w w9 := (below_over R5 HBA.out).trans (hb9.mono hwb)
            clear hg9 hgrow9 hb9 HG6 HRN HNE HZ5 HBA HR2 f0 f1 f2
            go_wp2
            go_roundw
            case rel => exact ⟨k + 1, by omega, by go_num, HG9.out, SR.out, hz9, hw9⟩
            case measure => simp [intOf]; omega
    · obtain rfl : k = L.length := by omega
      have HG : Hid (GrowC w.heap.size wr (.slice (some ⟨gs, 0, none⟩) ((L.take L.length).map (fun x => swpI code x.toNat)).length cs) (swpF code)) := by
        show GrowC _ _ _ _
        rw [HEND.out]
        exact hg.out.base hwb
      clear hg hsr
      go_wp2
      go_ret
      exact ⟨_, rfl, HG.out, hb⟩
set_option maxRecDepth 100000 in
set_option maxHeartbeats 1000000 in
theorem specSwept (g cap : Nat) (l : List Tx.Ins) (hl : l.length ≤ 1048576) (w : World) (hr : Row w g 0 l) :
    Calls Try.prog 22 #[.slice (some ⟨g, 0, none⟩) l.length cap] w fun e w' => ∃ x, e = .returned x ∧ Got w.heap.size w' x (swpA l) ∧ Below w.heap.size w w' := by
  have HR : Hid (Row w g 0 l) := hr
  clear hr
  go_enter Try.func22, Try.ntmps22
  go_wp2_with fail
  refine (specCodeOk g cap l hl w HR.out).mono ?_
  rintro e w1 ⟨rfl, hb1⟩
  cases hok : Lay.codeOk l
  · have HE : Hid (swpA l = []) := by show _ = _; simp [swpA, hok]
    clear hok
    go_wp2
    go_ret
    exact ⟨_, rfl, by rw [HE.out]; exact got_nil w1 _ hb1.size _, hb1.alloc hb1.size _⟩
  · have HE : Hid (swpA l = swpF l) := by show _ = _; simp [swpA, hok]
    go_wp2_with fail
    refine (l12Swept_at g cap l hok w1 (HR.out.on hb1)).mono ?_
    rintro e w2 ⟨x, rfl, hg, hb2⟩
    have hw2 : Below w.heap.size w w2 := below_over hb1 hb2
    have HG : Hid (GrowC w.heap.size w2 x (swpF l)) := hg.base hb1.size
    clear hb1 hb2 hok hg
    go_wp2
    go_ret
    exact ⟨_, rfl, by rw [HE.out]; exact HG.out.got, hw2⟩
end Pg
end Go.Proofs.Ytlbjnlkeagmpoaa
