/- The contract of the draw of code that goes well. -/
import Derived.Test.YtbgbddahniacbaaGreatDoorJDr4
import Derived.Test.YtbgbddahniacbaaGreatDoorJGot0
import Derived.Laws.OwnMore
namespace Go.Proofs.YtbgbddahniacbaaGreatDoor
namespace Cu
open Go.ChangeShapes Go.WideShapes Go.ChangeAt Go.RowKit St

theorem At.low {B c : Nat} {u v w : World} {a : Option Addr} {len cap : Nat} (h : At B u v c a len cap) (hc : c < u.heap.size) (hb : Below u.heap.size v w) : At B u w c a len cap :=
  ⟨⟨hb.os.trans h.1.os, hb.tape.trans h.1.tape, hb.output.trans h.1.output, Nat.le_trans h.1.size hb.size, fun k hk hne => (hb.block k hk).trans (h.1.block k hk hne)⟩, h.2.later hb hc⟩
theorem At.size {B c : Nat} {u v : World} {a : Option Addr} {len cap : Nat} (h : At B u v c a len cap) : u.heap.size ≤ v.heap.size := h.1.size
theorem own_shape {w : World} {B n q : Nat} {e : TypeId} {v : Value} {xs : List Value} (h : w.ownsRow B e q v n xs) (hv : v ≠ .slice none 0 0) : ∃ g cap, v = .slice (some ⟨g, 0, none⟩) n cap ∧ B ≤ g := by
  obtain ⟨_, ⟨h, _⟩ | ⟨g, cap, cur, rfl, hB, _⟩⟩ := h
  · exact absurd h hv
  · exact ⟨g, cap, rfl, hB⟩
theorem lit_flat (w : World) (l : List Tx.Ins) (t : TypeId) (cs : Array Value) (hcs : cs = (flat l).toArray) : ∀ j u, (flat l)[j]? = some u → (w.alloc (.cells cs t)).cell? ((⟨w.heap.size, 0, none⟩ : Addr).add j) = some u := by
  subst hcs
  intro j u hu
  rw [Go.WideShapes.add_plain, Nat.zero_add]
  simp [go_sem, hu]

/-- Some code has been drawn, of at least two and at most m steps, in a row that is owned whole; and the cursor stands. -/
def DrewO (B : Nat) (w0 w : World) (c : Nat) (a : Option Addr) (len cap m : Nat) (e : Ending) (w' : World) : Prop :=
  ∃ x l, e = .returned x ∧ w'.ownsRow w.heap.size 73 3 x l.length (flat l) ∧ x ≠ .slice none 0 0 ∧ 2 ≤ l.length ∧ l.length ≤ m ∧ Fits l ∧ At B w0 w' c a len cap

set_option maxRecDepth 100000 in
set_option maxHeartbeats 4000000 in
theorem drawCode_own (B c : Nat) (w : World) (a : Option Addr) (len cap : Nat) (h : Cur B w c a len cap) :
    Calls Tryz.prog 64 #[.pointer (some ⟨c, 0, none⟩)] w fun e w' => DrewO B w w c a len cap 36 e w' := by
  obtain ⟨i0, hi, hz0, hz1, hz2⟩ := info_parts infoI
  have hcw : c < w.heap.size := h.2.1
  have H : Hid (Cur B w c a len cap) := h
  clear h
  go_enter Tryz.func64, Tryz.ntmps64
  go_wp2
  go_loopw [3, 4] (fun v i wr => ∃ (k : Nat) (v0 : Value) (lk : List Tx.Ins), 1 ≤ k ∧ k ≤ 4 ∧ i = .int .i64 k ∧ v0 = v ∧ Hid (lk.length + 2 = 2 * k) ∧ Hid (Fits lk) ∧ Hid (wr.ownsRow w.heap.size 73 3 v0 lk.length (flat lk)) ∧ Hid (v0 ≠ .slice none 0 0) ∧ Hid (At B w wr c a len cap)) (fun _ i _ => 4 - (intOf i).toNat)
  case atStart => exact ⟨1, _, [], by omega, by omega, rfl, rfl, rfl, trivial, World.ownsRow_made w #[] 0 (Nat.le_refl _) (by decide) (by simp), by show _ ≠ _; simp, (At.start H.out).alloc _⟩
  case round =>
    obtain ⟨k, v, lk, hk1, hk4, rfl, rfl, hlk, hfit, hown, hvn, hat⟩ := hrel
    by_cases hlt : k < 4
    · have hki : (k : Int) < 4 := by omega
      go_wp2_with fail
      refine (below_at B c _ _ a len cap _ (At.start hat.out.2)).mono ?_
      rintro e w2 ⟨r, rfl, hr0, _, hr2, _, h2⟩
      have hr := hr2 (by omega)
      have HO2 : Hid (w2.ownsRow w.heap.size 73 3 v lk.length (flat lk)) := own_touch hown.out h2.1 hcw
      have HA2 : Hid (At B w w2 c a len cap) := hat.out.step h2
      have hs2 : w.heap.size ≤ w2.heap.size := HA2.out.size
      clear h2 hr2 hown hat
      have hlk8 : lk.length ≤ 8 := by have := hlk.out; omega
      go_wp2_with (at_builtin; refine wpList_append_own _ rfl _ _ 33 rfl w.heap.size 73 i0 (.agg #[.int .i64 0, .int .i64 0, .int .i64 0]) 3 24 Tryz.underlying33 hi hz0 hz1 hz2 rfl (by decide) _ _ _ rfl (HO2.out.alloc _) ⟨w2.heap.size, 0, none⟩ 2 2 (flat [(1, _, 0), (3, _, 0)]) rfl rfl (lit_flat w2 [(1, _, 0), (3, _, 0)] _ _ rfl) (flat_one _) (by unfold maxLen; omega) (by omega) (by simp; omega) ?_)
      intro v' w3 hown' hgrow hnil
      have hb3 : Below w.heap.size w2 w3 := ((Below.refl _ _).alloc hs2 _).grown hgrow (by simp; omega) (fun g hg => (HO2.out.lt g hg).1)
      have HA3 : Hid (At B w w3 c a len cap) := HA2.out.low hcw hb3
      have HV : Hid (v' ≠ .slice none 0 0) := fun h => by first | exact hnil h | exact absurd (hnil.1 h).1 (by simp)
      have HW : Hid (w3.ownsRow w.heap.size 73 3 v' (lk.length + 2) (flat lk ++ flat [(1, 1 + r, 0), (3, (k : Int), 0)])) := by
        show World.ownsRow _ _ _ _ _ _ _
        first | exact hown' | simpa using hown'
      clear hown' hgrow hnil HO2 HA2 hb3
      go_wp2
      go_roundw
      case rel =>
        refine ⟨k + 1, v', lk ++ [(1, 1 + r, 0), (3, (k : Int), 0)], by omega, by omega, by go_num, rfl, ?_, hfit.out.append (by simp only [Fits, FitsI, and_true]; omega), ?_, HV.out, HA3.out⟩
        · show _ = _
          have := hlk.out
          simp only [List.length_append, List.length_cons, List.length_nil]
          omega
        · show w3.ownsRow _ _ _ _ _ _
          rw [flat_append, List.length_append]; exact HW.out
      case measure => simp [intOf]; omega
    · have hlk8 : Hid (lk.length ≤ 34) := by
        show _ ≤ _
        have := hlk.out
        omega
      clear hlk
      go_wp2_with fail
      refine (below_at B c _ _ a len cap _ (At.start hat.out.2)).mono ?_
      rintro e w2 ⟨r, rfl, hr0, _, hr2, _, h2⟩
      have hr := hr2 (by omega)
      have HO2 : Hid (w2.ownsRow w.heap.size 73 3 v lk.length (flat lk)) := own_touch hown.out h2.1 hcw
      have HA2 : Hid (At B w w2 c a len cap) := hat.out.step h2
      clear h2 hr2 hown hat
      go_wp2
      go_loopw [3, 5] (fun v i wr => ∃ (q : Int) (v0 : Value) (lk : List Tx.Ins), 0 ≤ q ∧ q ≤ 5 ∧ i = .int .i64 q ∧ v0 = v ∧ Hid (lk.length ≤ 34) ∧ Hid (Fits lk) ∧ Hid (wr.ownsRow w.heap.size 73 3 v0 lk.length (flat lk)) ∧ Hid (v0 ≠ .slice none 0 0) ∧ Hid (At B w wr c a len cap)) (fun _ i _ => (intOf i).toNat)
      case atStart => exact ⟨r, _, lk, hr0, by omega, rfl, rfl, hlk8.out, hfit.out, HO2.out, hvn.out, HA2.out⟩
      case round =>
        clear HO2 HA2 hvn hlk8 hr hr0 hk1 hk4 hlt hfit
        obtain ⟨q, v, lk, hq0, hq5, rfl, rfl, hlk, hfit, hown, hvn, hat⟩ := hrel
        obtain ⟨gv, cv, rfl, hBv⟩ := own_shape hown.out hvn.out
        have hlk34 : lk.length ≤ 34 := hlk.out
        clear hlk hvn
        by_cases hgo : 0 < q ∧ (lk.length : Int) < 28
        · obtain ⟨hq, hn⟩ := hgo
          go_wp2_with fail
          refine (drawPiece_cur B c _ a len cap _ (by omega) (by omega) hat.out.2).mono ?_
          rintro e w3 ⟨x, lp, rfl, ⟨g2, c2, rfl, hg1, hg2, hrow, hroom⟩, hlp, hfp, h3⟩
          have HFP : Hid (Fits (lk ++ lp)) := hfit.out.append hfp
          clear hfp
          have HO3 : Hid (w3.ownsRow w.heap.size 73 3 (.slice (some ⟨gv, 0, none⟩) lk.length cv) lk.length (flat lk)) := own_touch hown.out h3.1 hcw
          have HA3 : Hid (At B w w3 c a len cap) := hat.out.step h3
          have hs3 : w.heap.size ≤ w3.heap.size := HA3.out.size
          have HR3 : Hid (Row w3 g2 0 lp) := hrow
          clear h3 hown hat hrow hroom hg1 hg2
          go_wp2_with (at_builtin; refine wpList_append_own _ rfl _ _ 33 rfl w.heap.size 73 i0 (.agg #[.int .i64 0, .int .i64 0, .int .i64 0]) 3 24 Tryz.underlying33 hi hz0 hz1 hz2 rfl (by decide) _ _ _ rfl HO3.out ⟨g2, 0, none⟩ lp.length c2 (flat lp) rfl (flat_len lp) HR3.out.flat (flat_one _) (by unfold maxLen; omega) (by omega) hs3 ?_)
          intro v' w4 hown' hgrow hnil
          have hb4 : Below w.heap.size w3 w4 := (Below.refl _ _).grown hgrow hs3 (fun g hg => (HO3.out.lt g hg).1)
          have HA4 : Hid (At B w w4 c a len cap) := HA3.out.low hcw hb4
          have HV : Hid (v' ≠ .slice none 0 0) := fun h => by first | exact hnil h | exact absurd (hnil.1 h).1 (by simp)
          have HW : Hid (w4.ownsRow w.heap.size 73 3 v' (lk.length + lp.length) (flat lk ++ flat lp)) := hown'
          clear hown' hgrow hnil HO3 HA3 hb4 HR3
          go_wp2
          go_roundw
          case rel =>
            refine ⟨q - 1, v', lk ++ lp, by omega, by omega, by go_num, rfl, ?_, HFP.out, ?_, HV.out, HA4.out⟩
            · show _ ≤ _
              rw [List.length_append]
              omega
            · show w4.ownsRow _ _ _ _ _ _
              rw [flat_append, List.length_append]; exact HW.out
          case measure => simp [intOf]; omega
        · by_cases hq : 0 < q
          · have hn : ¬ (lk.length : Int) < 28 := fun h => hgo ⟨hq, h⟩
            clear hgo
            go_wp2_with fail
            refine (below_at B c _ _ a len cap _ (At.start hat.out.2)).mono ?_
            rintro e w3 ⟨r, rfl, hr0, _, hr2, _, h3⟩
            have hr := hr2 (by omega)
            have HO3 : Hid (w3.ownsRow w.heap.size 73 3 (.slice (some ⟨gv, 0, none⟩) lk.length cv) lk.length (flat lk)) := own_touch hown.out h3.1 hcw
            have HA3 : Hid (At B w w3 c a len cap) := hat.out.step h3
            have hs3 : w.heap.size ≤ w3.heap.size := HA3.out.size
            clear h3 hr2 hown hat
            go_wp2_with (at_builtin; refine wpList_append_own _ rfl _ _ 33 rfl w.heap.size 73 i0 (.agg #[.int .i64 0, .int .i64 0, .int .i64 0]) 3 24 Tryz.underlying33 hi hz0 hz1 hz2 rfl (by decide) _ _ _ rfl (HO3.out.alloc _) ⟨w3.heap.size, 0, none⟩ 2 2 (flat [(2, _, 0), (20, 0, 0)]) rfl rfl (lit_flat w3 [(2, _, 0), (20, 0, 0)] _ _ rfl) (flat_one _) (by unfold maxLen; omega) (by omega) (by simp; omega) ?_)
            intro v' w4 hown' hgrow hnil
            have hb4 : Below w.heap.size w3 w4 := ((Below.refl _ _).alloc hs3 _).grown hgrow (by simp; omega) (fun g hg => (HO3.out.lt g hg).1)
            have HA4 : Hid (At B w w4 c a len cap) := HA3.out.low hcw hb4
            have HV : Hid (v' ≠ .slice none 0 0) := fun h => by first | exact hnil h | exact absurd (hnil.1 h).1 (by simp)
            have HW := hown'
            rw [← flat_append] at HW
            go_wp2
            go_ret
            exact ⟨_, _, rfl, by rw [List.length_append]; exact HW, HV.out, by simp, by simp; omega, hfit.out.append (by simp only [Fits, FitsI, and_true]; omega), HA4.out⟩
          · clear hgo
            go_wp2_with fail
            refine (below_at B c _ _ a len cap _ (At.start hat.out.2)).mono ?_
            rintro e w3 ⟨r, rfl, hr0, _, hr2, _, h3⟩
            have hr := hr2 (by omega)
            have HO3 : Hid (w3.ownsRow w.heap.size 73 3 (.slice (some ⟨gv, 0, none⟩) lk.length cv) lk.length (flat lk)) := own_touch hown.out h3.1 hcw
            have HA3 : Hid (At B w w3 c a len cap) := hat.out.step h3
            have hs3 : w.heap.size ≤ w3.heap.size := HA3.out.size
            clear h3 hr2 hown hat
            go_wp2_with (at_builtin; refine wpList_append_own _ rfl _ _ 33 rfl w.heap.size 73 i0 (.agg #[.int .i64 0, .int .i64 0, .int .i64 0]) 3 24 Tryz.underlying33 hi hz0 hz1 hz2 rfl (by decide) _ _ _ rfl (HO3.out.alloc _) ⟨w3.heap.size, 0, none⟩ 2 2 (flat [(2, _, 0), (20, 0, 0)]) rfl rfl (lit_flat w3 [(2, _, 0), (20, 0, 0)] _ _ rfl) (flat_one _) (by unfold maxLen; omega) (by omega) (by simp; omega) ?_)
            intro v' w4 hown' hgrow hnil
            have hb4 : Below w.heap.size w3 w4 := ((Below.refl _ _).alloc hs3 _).grown hgrow (by simp; omega) (fun g hg => (HO3.out.lt g hg).1)
            have HA4 : Hid (At B w w4 c a len cap) := HA3.out.low hcw hb4
            have HV : Hid (v' ≠ .slice none 0 0) := fun h => by first | exact hnil h | exact absurd (hnil.1 h).1 (by simp)
            have HW := hown'
            rw [← flat_append] at HW
            go_wp2
            go_ret
            exact ⟨_, _, rfl, by rw [List.length_append]; exact HW, HV.out, by simp, by simp; omega, hfit.out.append (by simp only [Fits, FitsI, and_true]; omega), HA4.out⟩
theorem drawCode_cur (B c : Nat) (w : World) (a : Option Addr) (len cap : Nat) (h : Cur B w c a len cap) :
    Calls Tryz.prog 64 #[.pointer (some ⟨c, 0, none⟩)] w fun e w' => DrewC B w w c a len cap 36 e w' :=
  (drawCode_own B c w a len cap h).mono fun _ _ ⟨x, l, he, ho, hx, _, h2, hf, hat⟩ => ⟨x, l, he, got_of ho hx, h2, hf, hat⟩
end Cu
end Go.Proofs.YtbgbddahniacbaaGreatDoor

/- Rows of numbers: what the laws' own functions do with them. -/
namespace Go.Proofs.YtbgbddahniacbaaGreatDoor
namespace St
open Go.ChangeShapes Go.WideShapes Go.ChangeAt Go.RowKit

/-- The numbers l lie in block g from place o on. -/
def IRow (w : World) (g o : Nat) (l : List Int) : Prop := ∀ j x, l[j]? = some x → w.cell? ⟨g, o + j, none⟩ = some (.int .i64 x)
theorem IRow.on {u v : World} {g o : Nat} {l : List Int} (h : IRow u g o l) (hb : Below u.heap.size u v) : IRow v g o l := fun j x hj => (hb.cell (cell_lt (h j x hj))).trans (h j x hj)
theorem IRow.below {B : Nat} {u v : World} {g o : Nat} {l : List Int} (h : IRow u g o l) (hb : Below B u v) (hg : g < B) : IRow v g o l := fun j x hj => (hb.cell hg).trans (h j x hj)
theorem Only.irow {g g' o : Nat} {u v : World} {l : List Int} (h : Only g u v) (hne : g' ≠ g) (hr : IRow u g' o l) : IRow v g' o l := fun j x hj => (World.cell?_of_block (w := u) (h.block g' hne)).trans (hr j x hj)
theorem Only.room {g g' n : Nat} {u v : World} (h : Only g u v) (hne : g' ≠ g) (hr : Room u g' n) : Room v g' n := by
  intro i hi
  obtain ⟨⟨x, hx⟩, hf⟩ := hr i hi
  exact ⟨⟨x, (World.cell?_of_block (w := u) (h.block g' hne)).trans hx⟩, (World.frozen?_of_block (w := u) (h.block g' hne)).trans hf⟩
theorem IRow.nil (w : World) (g o : Nat) : IRow w g o [] := fun j x h => by simp at h
/-- One more number written behind those that lie there. -/
theorem irow_next {w : World} {g k : Nat} {l : List Int} (hk : k < l.length) (hroom : Room w g l.length) (hr : IRow w g 0 (l.take k)) : IRow (w.setCell ⟨g, k, none⟩ (.int .i64 l[k])) g 0 (l.take (k + 1)) := by
  intro j x hj
  rw [List.getElem?_take] at hj
  split at hj
  · rename_i hjk
    rw [Nat.zero_add]
    by_cases e : j = k
    · subst e
      rw [List.getElem?_eq_getElem hk] at hj
      injection hj with hj
      subst hj
      obtain ⟨⟨y, hy⟩, _⟩ := hroom j hk
      exact World.cell?_setCell_same _ _ _ hy
    · have hjt : (l.take k)[j]? = some x := by rw [List.getElem?_take, if_pos (by omega)]; exact hj
      have := hr j x hjt
      rw [Nat.zero_add] at this
      exact (World.cell?_setCell_other _ _ _ _ (fun e' => e (congrArg Addr.off e').symm)).trans this
  · simp at hj
/-- One number of a row written anew. -/
theorem irow_set {w : World} {g k : Nat} {l : List Int} (x : Int) (hr : IRow w g 0 l) : IRow (w.setCell ⟨g, k, none⟩ (.int .i64 x)) g 0 (l.set k x) := by
  intro j y hj
  rw [Nat.zero_add]
  rw [List.getElem?_set] at hj
  by_cases e : k = j
  · subst e
    by_cases hk : k < l.length
    · rw [if_pos rfl, if_pos hk] at hj
      injection hj with hj
      subst hj
      have := hr k _ (List.getElem?_eq_getElem hk)
      rw [Nat.zero_add] at this
      exact World.cell?_setCell_same _ _ _ this
    · rw [if_pos rfl, if_neg hk] at hj
      simp at hj
  · rw [if_neg e] at hj
    have := hr j y hj
    rw [Nat.zero_add] at this
    exact (World.cell?_setCell_other _ _ _ _ (fun e' => e (congrArg Addr.off e'))).trans this

theorem made_lt {w : World} {B e n g cap q : Nat} {xs : List Value} (h : w.ownsRow B e q (.slice (some ⟨g, 0, none⟩) n cap) n xs) : g < w.heap.size := by
  obtain ⟨_, h | ⟨g', cap', cur, hv, _, hblk, _⟩⟩ := h
  · simp at h
  · injection hv with h1 h2 h3
    simp at h1
    subst h1
    rcases Nat.lt_or_ge g w.heap.size with h | h
    · exact h
    · rw [Array.getElem?_eq_none h] at hblk
      simp at hblk

theorem irow_made {w : World} {B e n g cap : Nat} (h : w.ownsRow B e 1 (.slice (some ⟨g, 0, none⟩) n cap) n (madeCells (Value.int .i64 0).cells (n * 1)).toList) : IRow w g 0 (List.replicate n 0) := by
  intro j x hj
  rw [List.getElem?_replicate] at hj
  split at hj
  · rename_i hjn
    injection hj with hj
    subst hj
    have := World.ownsRow.cells h (g := g) rfl j (.int .i64 0) (by
      rw [Nat.mul_one]
      show (madeCells #[.int .i64 0] n).toList[j]? = _
      rw [toList_madeCells_one, List.getElem?_replicate, if_pos hjn])
    simp only [Go.WideShapes.add_plain, Nat.zero_add] at this
    simpa using this
  · simp at hj

theorem infoN : (Tryz.prog.info? 2).map (fun i => (i.zero, i.size, i.bytes)) = some (some (.int .i64 0), 1, 8) := by kernel_rfl

set_option maxHeartbeats 1000000 in
theorem likeSame (g g' cap cap' : Nat) (l : List Int) (hl : l.length ≤ 1048576) (w : World) (h1 : IRow w g 0 l) (h2 : IRow w g' 0 l) :
    Calls Tryz.prog 12 #[.slice (some ⟨g, 0, none⟩) l.length cap, .slice (some ⟨g', 0, none⟩) l.length cap'] w fun e w' => e = .returned (.bool true) ∧ Below w.heap.size w w' := by
  have H1 : Hid (IRow w g 0 l) := h1
  have H2 : Hid (IRow w g' 0 l) := h2
  clear h1 h2
  go_enter Tryz.func12, Tryz.ntmps12
  go_wp2
  go_loopw [5] (fun i wr => ∃ k : Nat, k ≤ l.length ∧ i = .int .i64 k ∧ Below w.heap.size w wr) (fun i _ => l.length - (intOf i).toNat)
  case atStart => exact ⟨0, Nat.zero_le _, rfl, Below.refl _ _⟩
  case round =>
    obtain ⟨k, hk, rfl, hb⟩ := hrel
    by_cases hlt : k < l.length
    · have a0 := H1.out.on hb k _ (List.getElem?_eq_getElem hlt)
      have b0 := H2.out.on hb k _ (List.getElem?_eq_getElem hlt)
      generalize l[k] = x at *
      simp only [Nat.zero_add] at a0 b0
      have hki : (k : Int) < (l.length : Int) := by omega
      have hki0 : (0 : Int) ≤ (k : Int) := by omega
      have r0 := cell_regrown a0
      have s0 := cell_regrown b0
      go_wp2_with fail
      refine wp_region_quiet_below (by kernel_rfl) (by kernel_rfl) ?_
      repeat (quiet_step (fail))
      refine wpQuiet_nil ?_
      intro _ hw'
      obtain ⟨⟨dq, osq⟩, hw''⟩ := hw'
      subst hw''
      have hw1 : Below w.heap.size w (Sort.grow (redrawn wr dq) osq) := below_over hb (below_regrown wr dq osq)
      clear a0 b0 r0 s0 hb
      generalize Sort.grow (redrawn wr dq) osq = w1 at *
      go_wp2
      go_roundw
      case rel => exact ⟨k + 1, by omega, by go_num, hw1⟩
      case measure => simp [intOf]; omega
    · go_wp2
      go_ret
      exact ⟨rfl, hb⟩
/-- The marks k, k + 1, .. -/
def imarks (m n : Nat) : List Int := (List.range n).map fun (j : Nat) => (m : Int) + (j : Int)
theorem imarks_len (m n : Nat) : (imarks m n).length = n := by simp [imarks]
theorem imarks_at {m n k : Nat} (h : k < n) : (imarks m n)[k]? = some ((m : Int) + (k : Int)) := by simp [imarks, h]
end St
end Go.Proofs.YtbgbddahniacbaaGreatDoor
