/- The contracts of the draws of layouts. -/
import Derived.Test.YtnlanikjlokboaaDr6
import Derived.Test.YtnlanikjlokboaaLoC
namespace Go.Proofs.Ytnlanikjlokboaa
namespace Cu
open Go.ChangeShapes Go.WideShapes Go.ChangeAt Go.RowKit St

theorem irow_touch {c g o : Nat} {u w : World} {l : List Int} (h : IRow u g o l) (ht : Touch c u w) (hc : g ≠ c) : IRow w g o l := fun j x hj => (ht.cell (St.cell_lt (h j x hj)) hc).trans (h j x hj)
theorem row_far {g g' o k : Nat} {w : World} {l : List Tx.Ins} (hne : g ≠ g') (h : Row w g o l) (v : Value) : Row (w.setCell ⟨g', k, none⟩ v) g o l := by
  intro j x hj
  obtain ⟨h0, h1, h2⟩ := h j x hj
  have ne : ∀ i, (⟨g', k, none⟩ : Addr) ≠ ⟨g, i, none⟩ := fun i e => hne (congrArg Addr.block e).symm
  exact ⟨(World.cell?_setCell_other _ _ _ _ (ne _)).trans h0, (World.cell?_setCell_other _ _ _ _ (ne _)).trans h1, (World.cell?_setCell_other _ _ _ _ (ne _)).trans h2⟩
theorem layC_len (l : List Tx.Ins) : (layC l).length ≤ l.length := by
  unfold layC
  split
  · rw [Lay.lay_len]; exact Nat.le_refl _
  · simp
theorem row_ints {w : World} {g : Nat} {v : List Int} (h : IRow w g 0 v) : ∀ j u, (ints v)[j]? = some u → w.cell? ((⟨g, 0, none⟩ : Addr).add j) = some u := by
  intro j u hu
  unfold ints at hu
  rw [List.getElem?_map] at hu
  cases hv : v[j]? with
  | none => rw [hv] at hu; simp at hu
  | some x =>
    rw [hv] at hu
    simp at hu
    subst hu
    rw [Go.WideShapes.add_plain]
    exact h j x hv

/-- Some layout has been drawn, and the cursor stands. -/
def DrewW (B : Nat) (w : World) (c : Nat) (a : Option Addr) (len cap : Nat) (e : Ending) (w' : World) : Prop :=
  ∃ x v, e = .returned x ∧ IGot w.heap.size w' x v ∧ v.length ≤ 42 ∧ At B w w' c a len cap

set_option maxRecDepth 100000 in
set_option maxHeartbeats 4000000 in
theorem drawWide_cur (B c : Nat) (w : World) (a : Option Addr) (len cap : Nat) (g cl : Nat) (l : List Tx.Ins) (hl : l.length ≤ 41) (hgc : g ≠ c) (hgw : g < w.heap.size) (h : Cur B w c a len cap) (hr : Row w g 0 l) :
    Calls Try.prog 48 #[.pointer (some ⟨c, 0, none⟩), .slice (some ⟨g, 0, none⟩) l.length cl] w fun e w' => DrewW B w c a len cap e w' := by
  obtain ⟨i0, hif, hz0, hz1, hz2⟩ := info_parts infoN
  have hcw : c < w.heap.size := h.2.1
  have hBw : B ≤ w.heap.size := Nat.le_trans h.1 (Nat.le_of_lt hcw)
  have H : Hid (Cur B w c a len cap) := h
  have HR : Hid (Row w g 0 l) := hr
  clear h hr
  go_enter Try.func48, Try.ntmps48
  go_wp2_with fail
  refine (specLayoutOfF g cl l (by omega) _ HR.out).mono ?_
  rintro e w1 ⟨x, rfl, ⟨g1, rfl, hB1, hg1, hi1, hm1⟩, hb1⟩
  have hln := layC_len l
  have S1A : Hid (At B w w1 c a len cap) := (At.start H.out).on hb1
  have S1R : Hid (Row w1 g 0 l) := HR.out.on hb1
  obtain ⟨lay, hlay⟩ : ∃ lay, lay = layC l := ⟨_, rfl⟩
  rw [← hlay] at hi1 hm1 hln ⊢
  clear hlay
  obtain ⟨n, hn⟩ : ∃ n, n = lay.length := ⟨_, rfl⟩
  rw [← hn] at hm1 hln ⊢
  have HN : Hid (n = lay.length) := hn
  have S1I : Hid (IRow w1 g1 0 lay) := hi1
  have S1M : Hid (Room w1 g1 n) := hm1
  have hgc1 : g1 ≠ c := by omega
  have hgg : g ≠ g1 := by omega
  clear hi1 hm1 hb1 H HR hn
  go_wp2
  go_loopw [6] (fun i wr => ∃ (k : Nat) (v : List Int), k ≤ n ∧ i = .int .i64 k ∧ Hid (v.length = n) ∧ Hid (IRow wr g1 0 v) ∧ Hid (Room wr g1 n) ∧ Hid (Row wr g 0 l) ∧ g1 < wr.heap.size ∧ Hid (At B w wr c a len cap)) (fun i _ => n - (intOf i).toNat)
  case atStart => exact ⟨0, lay, Nat.zero_le _, rfl, HN.out.symm, S1I.out, S1M.out, S1R.out, hg1, S1A.out⟩
  case round =>
    clear S1I S1M S1R S1A HN
    obtain ⟨k, v, hk, rfl, hvl, SI, SM, SR, hgl, SA⟩ := hrel
    by_cases hkn : k < n
    · have hkv : k < v.length := by rw [hvl.out]; exact hkn
      have hkl : k < l.length := by omega
      have hkni : (k : Int) < (n : Int) := by omega
      have hkli : (k : Int) < (l.length : Int) := by omega
      obtain ⟨d0, _, _⟩ := SR.out k _ (List.getElem?_eq_getElem hkl)
      obtain ⟨op, hop⟩ : ∃ op, op = l[k].1 := ⟨_, rfl⟩
      rw [← hop, Nat.zero_add] at d0
      clear hop
      go_wp2_with fail
      refine (l3Jump op _).mono ?_
      rintro e w2 ⟨rfl, rfl⟩
      clear d0
      cases hj : Lay.jumpB op
      · go_wp2_with fail
        refine (once_at B c _ _ a len cap _ (At.start SA.out.2)).mono ?_
        rintro e w3 ⟨q, rfl, h3⟩
        have HI3 : Hid (IRow w3 g1 0 v) := irow_touch SI.out h3.1 hgc1
        have HM3 : Hid (Room w3 g1 n) := room_touch SM.out h3.1 hgc1
        have HR3 : Hid (Row w3 g 0 l) := row_touch SR.out h3.1 hgc
        have HA3 : Hid (At B w w3 c a len cap) := SA.out.step h3
        have SZ3 : wr.heap.size ≤ w3.heap.size := h3.1.size
        clear h3 SI SM SR SA
        have S3I := HI3
        have S3M := HM3
        have S3R := HR3
        have S3A := HA3
        clear HI3 HM3 HR3 HA3
        cases q
        · go_wp2
          go_roundw
          case rel => exact ⟨k + 1, v, by omega, by go_num, hvl.out, S3I.out, S3M.out, S3R.out, Nat.lt_of_lt_of_le hgl SZ3, S3A.out⟩
          case measure => simp [intOf]; omega
        · have i0 := S3I.out k _ (List.getElem?_eq_getElem hkv)
          rw [Nat.zero_add] at i0
          have f0 := (S3M.out k hkn).2
          obtain ⟨z, hz⟩ : ∃ z, z = v[k] := ⟨_, rfl⟩
          rw [← hz] at i0
          clear hz
          have HZS : Hid (∀ y : Int, g1 < (w3.setCell ⟨g1, k, none⟩ (.int .i64 y)).heap.size) := fun y => Nat.lt_of_lt_of_le (Nat.lt_of_lt_of_le hgl SZ3) ((Below.refl 0 w3).setCell (p := ⟨g1, k, none⟩) (Nat.zero_le _) (.int .i64 y)).size
          have HIS : Hid (∀ y : Int, IRow (w3.setCell ⟨g1, k, none⟩ (.int .i64 y)) g1 0 (v.set k y)) := fun y => irow_set y S3I.out
          have HMS : Hid (∀ y : Int, Room (w3.setCell ⟨g1, k, none⟩ (.int .i64 y)) g1 n) := fun y => S3M.out.set _ _
          have HRS : Hid (∀ y : Int, Row (w3.setCell ⟨g1, k, none⟩ (.int .i64 y)) g 0 l) := fun y => row_far hgg S3R.out _
          have HAS : Hid (∀ y : Int, At B w (w3.setCell ⟨g1, k, none⟩ (.int .i64 y)) c a len cap) := fun y => ⟨S3A.out.1.setNew (p := ⟨g1, k, none⟩) hB1 _, S3A.out.2.setFar (p := ⟨g1, k, none⟩) hgc1 (Nat.le_trans hBw hB1) _⟩
          have HVS : Hid (∀ y : Int, (v.set k y).length = n) := fun y => by rw [List.length_set]; exact hvl.out
          clear S3I S3M S3R S3A
          go_wp2
          go_roundw
          case rel => exact ⟨k + 1, _, by omega, by go_num, HVS.out _, HIS.out _, HMS.out _, HRS.out _, HZS.out _, HAS.out _⟩
          case measure => simp [intOf]; omega
      · go_wp2_with fail
        refine (once_at B c _ _ a len cap _ (At.start SA.out.2)).mono ?_
        rintro e w3 ⟨q, rfl, h3⟩
        have HI3 : Hid (IRow w3 g1 0 v) := irow_touch SI.out h3.1 hgc1
        have HM3 : Hid (Room w3 g1 n) := room_touch SM.out h3.1 hgc1
        have HR3 : Hid (Row w3 g 0 l) := row_touch SR.out h3.1 hgc
        have HA3 : Hid (At B w w3 c a len cap) := SA.out.step h3
        have SZ3 : wr.heap.size ≤ w3.heap.size := h3.1.size
        clear h3 SI SM SR SA
        have S3I := HI3
        have S3M := HM3
        have S3R := HR3
        have S3A := HA3
        clear HI3 HM3 HR3 HA3
        cases q
        · go_wp2_with fail
          refine (once_at B c _ _ a len cap _ (At.start S3A.out.2)).mono ?_
          rintro e w4 ⟨q, rfl, h4⟩
          have HI4 : Hid (IRow w4 g1 0 v) := irow_touch S3I.out h4.1 hgc1
          have HM4 : Hid (Room w4 g1 n) := room_touch S3M.out h4.1 hgc1
          have HR4 : Hid (Row w4 g 0 l) := row_touch S3R.out h4.1 hgc
          have HA4 : Hid (At B w w4 c a len cap) := S3A.out.step h4
          have SZ4 : w3.heap.size ≤ w4.heap.size := h4.1.size
          clear h4 S3I S3M S3R S3A
          have S4I := HI4
          have S4M := HM4
          have S4R := HR4
          have S4A := HA4
          clear HI4 HM4 HR4 HA4
          cases q
          · go_wp2
            go_roundw
            case rel => exact ⟨k + 1, v, by omega, by go_num, hvl.out, S4I.out, S4M.out, S4R.out, Nat.lt_of_lt_of_le hgl (Nat.le_trans SZ3 SZ4), S4A.out⟩
            case measure => simp [intOf]; omega
          · have i0 := S4I.out k _ (List.getElem?_eq_getElem hkv)
            rw [Nat.zero_add] at i0
            have f0 := (S4M.out k hkn).2
            obtain ⟨z, hz⟩ : ∃ z, z = v[k] := ⟨_, rfl⟩
            rw [← hz] at i0
            clear hz
            have HZS : Hid (∀ y : Int, g1 < (w4.setCell ⟨g1, k, none⟩ (.int .i64 y)).heap.size) := fun y => Nat.lt_of_lt_of_le (Nat.lt_of_lt_of_le hgl (Nat.le_trans SZ3 SZ4)) ((Below.refl 0 w4).setCell (p := ⟨g1, k, none⟩) (Nat.zero_le _) (.int .i64 y)).size
            have HIS : Hid (∀ y : Int, IRow (w4.setCell ⟨g1, k, none⟩ (.int .i64 y)) g1 0 (v.set k y)) := fun y => irow_set y S4I.out
            have HMS : Hid (∀ y : Int, Room (w4.setCell ⟨g1, k, none⟩ (.int .i64 y)) g1 n) := fun y => S4M.out.set _ _
            have HRS : Hid (∀ y : Int, Row (w4.setCell ⟨g1, k, none⟩ (.int .i64 y)) g 0 l) := fun y => row_far hgg S4R.out _
            have HAS : Hid (∀ y : Int, At B w (w4.setCell ⟨g1, k, none⟩ (.int .i64 y)) c a len cap) := fun y => ⟨S4A.out.1.setNew (p := ⟨g1, k, none⟩) hB1 _, S4A.out.2.setFar (p := ⟨g1, k, none⟩) hgc1 (Nat.le_trans hBw hB1) _⟩
            have HVS : Hid (∀ y : Int, (v.set k y).length = n) := fun y => by rw [List.length_set]; exact hvl.out
            clear S4I S4M S4R S4A
            go_wp2
            go_roundw
            case rel => exact ⟨k + 1, _, by omega, by go_num, HVS.out _, HIS.out _, HMS.out _, HRS.out _, HZS.out _, HAS.out _⟩
            case measure => simp [intOf]; omega
        · have i0 := S3I.out k _ (List.getElem?_eq_getElem hkv)
          rw [Nat.zero_add] at i0
          have f0 := (S3M.out k hkn).2
          obtain ⟨z, hz⟩ : ∃ z, z = v[k] := ⟨_, rfl⟩
          rw [← hz] at i0
          clear hz
          have HZS : Hid (∀ y : Int, g1 < (w3.setCell ⟨g1, k, none⟩ (.int .i64 y)).heap.size) := fun y => Nat.lt_of_lt_of_le (Nat.lt_of_lt_of_le hgl SZ3) ((Below.refl 0 w3).setCell (p := ⟨g1, k, none⟩) (Nat.zero_le _) (.int .i64 y)).size
          have HIS : Hid (∀ y : Int, IRow (w3.setCell ⟨g1, k, none⟩ (.int .i64 y)) g1 0 (v.set k y)) := fun y => irow_set y S3I.out
          have HMS : Hid (∀ y : Int, Room (w3.setCell ⟨g1, k, none⟩ (.int .i64 y)) g1 n) := fun y => S3M.out.set _ _
          have HRS : Hid (∀ y : Int, Row (w3.setCell ⟨g1, k, none⟩ (.int .i64 y)) g 0 l) := fun y => row_far hgg S3R.out _
          have HAS : Hid (∀ y : Int, At B w (w3.setCell ⟨g1, k, none⟩ (.int .i64 y)) c a len cap) := fun y => ⟨S3A.out.1.setNew (p := ⟨g1, k, none⟩) hB1 _, S3A.out.2.setFar (p := ⟨g1, k, none⟩) hgc1 (Nat.le_trans hBw hB1) _⟩
          have HVS : Hid (∀ y : Int, (v.set k y).length = n) := fun y => by rw [List.length_set]; exact hvl.out
          clear S3I S3M S3R S3A
          go_wp2
          go_roundw
          case rel => exact ⟨k + 1, _, by omega, by go_num, HVS.out _, HIS.out _, HMS.out _, HRS.out _, HZS.out _, HAS.out _⟩
          case measure => simp [intOf]; omega
    · go_wp2_with fail
      refine (once_at B c _ _ a len cap _ (At.start SA.out.2)).mono ?_
      rintro e w3 ⟨q, rfl, h3⟩
      have HI3 : Hid (IRow w3 g1 0 v) := irow_touch SI.out h3.1 hgc1
      have HM3 : Hid (Room w3 g1 n) := room_touch SM.out h3.1 hgc1
      have HR3 : Hid (Row w3 g 0 l) := row_touch SR.out h3.1 hgc
      have HA3 : Hid (At B w w3 c a len cap) := SA.out.step h3
      have SZ3 : wr.heap.size ≤ w3.heap.size := h3.1.size
      clear h3 SI SM SR SA
      have S3I := HI3
      have S3M := HM3
      have S3R := HR3
      have S3A := HA3
      clear HI3 HM3 HR3 HA3
      have hs3 : w.heap.size ≤ w3.heap.size := S3A.out.size
      cases q
      · have hgl1 : g1 < w3.heap.size := Nat.lt_of_lt_of_le hgl SZ3
        go_wp2
        go_ret
        exact ⟨.slice (some ⟨g1, 0, none⟩) n n, v, rfl, ⟨g1, n, by rw [hvl.out], hB1, hgl1, S3I.out, by rw [hvl.out]; exact S3M.out⟩, by rw [hvl.out]; omega, S3A.out⟩
      · have HNE : Hid ((ints v).length = n * 1) := by
          show _ = _
          unfold ints
          rw [List.length_map, hvl.out, Nat.mul_one]
        go_wp2_with (at_builtin; refine wpList_append_grows _ rfl _ _ 25 rfl 2 i0 (.int .i64 0) 1 8 Try.underlying25 hif hz0 hz1 hz2 rfl (by decide) (some ⟨g1, 0, none⟩) n n (ints v) rfl (by simp) HNE.out ?c1 ⟨w3.heap.size, 0, none⟩ 1 1 [.int .i64 0] rfl rfl ?c2 ?c3 (by omega) (by unfold maxLen; omega) (by omega) ?_)
        case c1 =>
          intro b hb j u hu
          simp at hb
          subst hb
          exact row_ints (S3I.out.on ((Below.refl _ _).alloc (Nat.le_refl _) _)) j u hu
        case c2 =>
          intro j u hj
          match j, hj with
          | 0, hj => simp at hj; subst hj; simp [Addr.add]
        case c3 => intro u hu; simp at hu; subst hu; rfl
        intro v' w4 hown hgrow
        have hb4 : Below w.heap.size w3 w4 := ((Below.refl _ _).alloc hs3 _).grown hgrow (by simp; omega) (fun g hg => by simp at hg)
        have HA4 : Hid (At B w w4 c a len cap) := S3A.out.low hcw hb4
        have hvn : v' ≠ .slice none 0 0 := by
          obtain ⟨_, ⟨_, h0⟩ | ⟨gx, cx, _, rfl, _⟩⟩ := hown
          · omega
          · simp
        have HG4 : Hid (IGot w.heap.size w4 v' (v ++ [0])) := by
          show IGot _ _ _ _
          have h1 : w4.ownsRow (w3.heap.size + 1) 2 1 v' (v ++ [0]).length (ints (v ++ [0])) := by
            unfold ints at hown ⊢
            rw [List.length_append, hvl.out, List.map_append]
            exact hown
          obtain ⟨g', c', e', hb', hx⟩ := igot_of h1 hvn
          exact ⟨g', c', e', by omega, hx⟩
        clear hown hgrow hb4
        go_wp2
        go_ret
        exact ⟨_, _, rfl, HG4.out, by rw [List.length_append, hvl.out]; simp; omega, HA4.out⟩

/-- Some code and some layout have been drawn. -/
def DrewLW (w : World) (e : Ending) (w' : World) : Prop :=
  ∃ g cl l g' cv v, e = .returned (.tuple #[.slice (some ⟨g, 0, none⟩) l.length cl, .slice (some ⟨g', 0, none⟩) v.length cv]) ∧ Row w' g 0 l ∧ IRow w' g' 0 v ∧ l.length ≤ 41 ∧ v.length ≤ 42 ∧ Below w.heap.size w w'

set_option maxHeartbeats 800000 in
theorem drawPlaces_at (B : Nat) (w : World) (a : Option Addr) (len cap : Nat) (hB : Bytes B w a len) (hs : B ≤ w.heap.size) :
    Calls Try.prog 16 #[.slice a len cap] w fun e w' => DrewLW w e w' := by
  go_enter Try.func16, Try.ntmps16
  go_wp2_with fail
  refine (new_at B _ a len cap hB hs).mono ?_
  rintro e w1 ⟨c, rfl, hc, hb1, h1⟩
  have hcw1 : c < w1.heap.size := h1.2.1
  have H1 : Hid (Cur B w1 c a len cap) := h1
  clear h1 hB
  go_wp2_with fail
  refine (drawAnyC_cur B c _ a len cap H1.out).mono ?_
  rintro e w2 ⟨x, l, rfl, ⟨g, cl, rfl, hg1, hg2, hr2, _⟩, hl, h2⟩
  have H2 : Hid (At B w1 w2 c a len cap) := h2
  have HR2 : Hid (Row w2 g 0 l) := hr2
  clear hr2 h2
  go_wp2_with fail
  refine (drawWide_cur B c _ a len cap g cl l hl (by omega) hg2 H2.out.2 HR2.out).mono ?_
  rintro e w3 ⟨x, v, rfl, ⟨g', cv, rfl, hg1', hg2', hi3, _⟩, hv, h3⟩
  have H3 : Hid (At B w1 w3 c a len cap) := H2.out.step h3
  have HR3 : Hid (Row w3 g 0 l) := row_touch HR2.out h3.1 (by omega)
  have HI3 : Hid (IRow w3 g' 0 v) := hi3
  clear hi3 h3
  go_wp2
  go_ret2
  exact ⟨g, cl, l, g', cv, v, rfl, HR3.out, HI3.out, hl, hv, H3.out.below hb1 hc⟩
set_option maxHeartbeats 800000 in
theorem drawLayOk_at (B : Nat) (w : World) (a : Option Addr) (len cap : Nat) (hB : Bytes B w a len) (hs : B ≤ w.heap.size) :
    Calls Try.prog 8 #[.slice a len cap] w fun e w' => DrewLW w e w' := by
  go_enter Try.func8, Try.ntmps8
  go_wp2_with fail
  refine (drawPlaces_at B _ a len cap hB hs).mono ?_
  rintro e w1 ⟨g, cl, l, g', cv, v, rfl, h1, h2, hl, hv, hb⟩
  have H1 : Hid (Row w1 g 0 l) := h1
  have H2 : Hid (IRow w1 g' 0 v) := h2
  clear h1 h2 hB
  go_wp2
  go_ret2
  exact ⟨g, cl, l, g', cv, v, rfl, H1.out, H2.out, hl, hv, hb⟩
end Cu
end Go.Proofs.Ytnlanikjlokboaa
