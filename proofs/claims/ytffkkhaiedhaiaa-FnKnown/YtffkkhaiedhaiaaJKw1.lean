/- Contracts: Known, on both sides. -/
import Derived.Test.YtffkkhaiedhaiaaJKw0
import Derived.Test.YtffkkhaiedhaiaaJKq1
import Derived.Test.YtffkkhaiedhaiaaJLk0
namespace Go.Proofs.Ytffkkhaiedhaiaa
namespace Pg
open Go.ChangeShapes Go.WideShapes Go.ChangeAt Go.RowKit St Wd

def nK (l : List Tx.Ins) : Nat := if Lay.codeOk l then l.length else 0
theorem nK_le (l : List Tx.Ins) : nK l ≤ 41 := by
  unfold nK
  split
  · rename_i h; have := (Lay.ok_len h).2; omega
  · omega
noncomputable def wdK (l : List Tx.Ins) : Kw := fun i j => if j < 8 then some (wdF l i j) else none
theorem wdK_all (l : List Tx.Ins) (n : Nat) : AllK n (wdK l) := fun i j _ hj => by unfold wdK; simp [hj]
/-- The rows of an answer. -/
def KnA (B : Nat) (w : World) (v : Value) (l : List Tx.Ins) : Prop := ∃ G c f cp, v = .slice (some ⟨G, 0, none⟩) (nK l) c ∧ RowsK B w G (nK l) (wdK l) f cp
/-- As the program has them: the row of rows is the call's own too. -/
def KnB (B : Nat) (w : World) (v : Value) (l : List Tx.Ins) : Prop := ∃ G c f cp, v = .slice (some ⟨G, 0, none⟩) (nK l) c ∧ B ≤ G ∧ RowsK B w G (nK l) (wdK l) f cp
theorem knA_nil {B : Nat} {w : World} {l : List Tx.Ins} (h : Lay.codeOk l = false) (t : TypeId) : KnA B (w.alloc (.cells #[] t)) (.slice (some ⟨w.heap.size, 0, none⟩) 0 0) l := by
  have h0 : nK l = 0 := by unfold nK; simp [h]
  refine ⟨w.heap.size, 0, fun _ => 0, fun _ => 0, by rw [h0], ?_⟩
  rw [h0]
  exact ⟨fun i x hx => by simp [cellsG] at hx, by simp, fun i hi => absurd hi (Nat.not_lt_zero _), fun i i' hi => absurd hi (Nat.not_lt_zero _)⟩
theorem knB_nil {B : Nat} {w : World} {l : List Tx.Ins} (h : Lay.codeOk l = false) (hB : B ≤ w.heap.size) (t : TypeId) : KnB B (w.alloc (.cells #[] t)) (.slice (some ⟨w.heap.size, 0, none⟩) 0 0) l := by
  have h0 : nK l = 0 := by unfold nK; simp [h]
  refine ⟨w.heap.size, 0, fun _ => 0, fun _ => 0, by rw [h0], hB, ?_⟩
  rw [h0]
  exact ⟨fun i x hx => by simp [cellsG] at hx, by simp, fun i hi => absurd hi (Nat.not_lt_zero _), fun i i' hi => absurd hi (Nat.not_lt_zero _)⟩
theorem RowsK.only {B : Nat} {u v : World} {G n : Nat} {K : Kw} {f cp : Nat → Nat} {b : Nat} (h : RowsK B u G n K f cp) (ho : Only b u v) (hG : G ≠ b) (hb : b < B) : RowsK B v G n K f cp := by
  obtain ⟨h1, h3, h4, h5⟩ := h
  have mv : ∀ {q : Nat} {vs : List Value}, q ≠ b → Cells u q vs → Cells v q vs := fun hne hc i x hx => by
    obtain ⟨a1, a2⟩ := hc i x hx
    have e := ho.block _ hne
    exact ⟨(World.cell?_of_block (w := u) e).trans a1, (World.frozen?_of_block (w := u) e).trans a2⟩
  refine ⟨mv hG h1, by rw [ho.size]; exact h3, fun i hi hk => ?_, h5⟩
  obtain ⟨q1, q2, q3, q4⟩ := h4 i hi hk
  exact ⟨q1, by rw [ho.size]; exact q2, q3, mv (by omega) q4⟩
noncomputable def prtK (l : List Tx.Ins) (k : Nat) : Kw := fun i j => if i < k ∧ j < 8 then some (wdF l i j) else none
noncomputable def zK (l : List Tx.Ins) (k m : Nat) : Kw := fun i j => if i < k ∧ j < 8 then some (wdF l i j) else if i = k ∧ j < 8 then (if j < m then some (wdF l k j) else some 0) else none
theorem prt_zero (l : List Tx.Ins) : prtK l 0 = noneK := by funext i j; simp [prtK, noneK]
theorem z_end (l : List Tx.Ins) (k : Nat) : zK l k 8 = prtK l (k + 1) := by
  funext i j
  unfold zK prtK
  by_cases h8 : j < 8
  · by_cases h1 : i < k
    · rw [if_pos ⟨h1, h8⟩, if_pos ⟨by omega, h8⟩]
    · rw [if_neg (fun h => h1 h.1)]
      by_cases h2 : i = k
      · subst h2; rw [if_pos ⟨rfl, h8⟩, if_pos h8, if_pos ⟨by omega, h8⟩]
      · rw [if_neg (fun h => h2 h.1), if_neg (fun h => by omega)]
  · rw [if_neg (fun h => h8 h.2), if_neg (fun h => h8 h.2), if_neg (fun h => h8 h.2)]
theorem z_step {l : List Tx.Ins} {k m : Nat} (hm : m < 8) : setK (zK l k m) k m (wdF l k m) = zK l k (m + 1) := by
  funext i j
  unfold setK zK
  by_cases e : i = k ∧ j = m
  · obtain ⟨rfl, rfl⟩ := e
    rw [if_pos ⟨rfl, rfl⟩, if_neg (fun h => by omega), if_pos ⟨rfl, hm⟩, if_pos (by omega)]
  · rw [if_neg e]
    by_cases h1 : i < k ∧ j < 8
    · rw [if_pos h1, if_pos h1]
    · rw [if_neg h1, if_neg h1]
      by_cases h2 : i = k ∧ j < 8
      · rw [if_pos h2, if_pos h2]
        have hj : j ≠ m := fun h => e ⟨h2.1, h⟩
        by_cases h3 : j < m
        · rw [if_pos h3, if_pos (by omega)]
        · rw [if_neg h3, if_neg (by omega)]
      · rw [if_neg h2, if_neg h2]
theorem z_there {l : List Tx.Ins} {k m j : Nat} (hj : j < 8) : zK l k m k j ≠ none := by
  unfold zK
  rw [if_neg (fun h => by omega), if_pos ⟨rfl, hj⟩]
  split <;> simp
set_option maxRecDepth 100000 in
set_option maxHeartbeats 4000000 in
theorem implKnown (g cap : Nat) (l : List Tx.Ins) (hl : l.length ≤ 1048576) (w : World) (hr : Row w g 0 l) :
    Calls Try.prog 31 #[.slice (some ⟨g, 0, none⟩) l.length cap] w fun e w' => ∃ x, e = .returned x ∧ KnB w.heap.size w' x l ∧ Below w.heap.size w w' := by
  obtain ⟨i0, hif, hz0, hz1, hz2⟩ := info_parts infoR
  obtain ⟨j0, hjf, hj0, hj1, hj2⟩ := info_parts infoN
  have HR : Hid (Row w g 0 l) := hr
  clear hr
  go_enter Try.func31, Try.ntmps31
  go_wp2_with fail
  refine (implCodeOk g cap l hl w HR.out).mono ?_
  rintro e w1 ⟨rfl, hb1⟩
  cases hok : Lay.codeOk l
  · have HE : Hid (Lay.codeOk l = false) := hok
    clear hok
    go_wp2
    go_ret
    exact ⟨_, rfl, knB_nil HE.out hb1.size _, hb1.alloc hb1.size _⟩
  · have HE : Hid (nK l = l.length) := by show _ = _; simp [nK, hok]
    have HOK : Hid (Lay.codeOk l = true) := hok
    have hl40 := (Lay.ok_len hok).2
    have hli : (l.length : Int) ≤ 40 := by omega
    clear hok
    go_wp2_with fail
    refine (knownIn_at g cap l HOK.out w1 (HR.out.on hb1)).mono ?_
    rintro e w2 ⟨a, K, rfl, hka, hle, hwa, hb2⟩
    have hw2 : Below w.heap.size w w2 := below_over hb1 hb2
    have HWD : Hid (∀ i s, i < l.length → s < 8 → wdF l i s = (K i s).getD UnK) := fun i s hi hs => wd_is hle hi hs
    have HKA : Hid (KM w2 a K) := hka
    clear hb1 hb2 hle hka hwa
    go_wp2_with (first | (at_make; refine wpList_make_full _ rfl _ _ 58 rfl w2.heap.size 27 i0 (.slice none 0 0) 1 Try.underlying58 hif hz0 hz1 .i64 .i64 _ _ l.length rfl rfl rfl rfl (by rw [hz2]; omega) (by unfold maxLen; omega) (Nat.le_refl _) ?_; intro w3 hown1 hgrow1))
    have hb3 : Below w2.heap.size w2 w3 := (Below.refl _ _).grown hgrow1 (Nat.le_refl _) (fun _ h => by simp at h)
    have hG3 : w2.heap.size < w3.heap.size := row_made_lt hown1
    have CG : Cells w3 w2.heap.size (List.replicate l.length (.slice none 0 0)) := by
      intro i x hx
      have hr := room_own hown1 (Nat.le_refl _)
      rw [Nat.mul_one] at hr
      have hi : i < l.length := by have := (List.getElem?_eq_some_iff.1 hx).1; simpa using this
      have hc := @World.ownsRow.cells w3 w2.heap.size 27 1 _ l.length _ hown1 (g := w2.heap.size) rfl i x (by
        have e : (madeCells (Value.slice none 0 0).cells (l.length * 1)).toList = List.replicate l.length (.slice none 0 0) := by rw [Nat.mul_one]; exact toList_madeCells_one _ _
        rw [e]; exact hx)
      rw [Go.WideShapes.add_plain, Nat.zero_add] at hc
      exact ⟨hc, (hr i hi).2⟩
    have HRW : Hid (RowsK w.heap.size w3 w2.heap.size l.length (prtK l 0) (fun _ => 0) (fun _ => 0)) := by
      rw [prt_zero]
      refine ⟨?_, hG3, fun i _ h => absurd rfl h, fun i i' _ _ h => absurd rfl h⟩
      have : cellsG noneK (fun _ => 0) (fun _ => 0) l.length = List.replicate l.length (.slice none 0 0) := by
        apply List.ext_getElem?
        intro p
        by_cases hp : p < l.length
        · rw [cellsG_at _ _ _ hp, List.getElem?_replicate, if_pos hp]; rfl
        · rw [List.getElem?_eq_none (by simp [cellsG]; omega), List.getElem?_eq_none (by simp; omega)]
      rw [this]
      exact CG
    clear hown1 hgrow1 CG
    go_loopw [18] (fun i wr => ∃ (k : Nat) (f cp : Nat → Nat), k ≤ l.length ∧ i = .int .i64 (k : Int) ∧ Hid (RowsK w.heap.size wr w2.heap.size l.length (prtK l k) f cp) ∧ Below w2.heap.size w2 wr) (fun i _ => l.length - (intOf i).toNat)
    case atStart => exact ⟨0, _, _, Nat.zero_le _, rfl, HRW.out, hb3⟩
    case round =>
      clear HRW hb3 hG3
      obtain ⟨k, f, cp, hk, rfl, hRw, hb⟩ := hrel
      by_cases hlt : k < l.length
      · have hki : (k : Int) < (l.length : Int) := by omega
        have hGw : w2.heap.size < wr.heap.size := hRw.out.2.1
        have hkn : prtK l k k 0 = none := by simp [prtK]
        obtain ⟨cT, fT⟩ := hRw.out.1 k _ (cellsG_at _ _ _ hlt)
        rw [show slcK (prtK l k) f cp k = .slice none 0 0 from by simp [slcK, hkn]] at cT
        have HFI : Hid (∀ (wz : World) (g' c' : Nat), Below wr.heap.size wr wz → wr.heap.size ≤ g' → g' < wz.heap.size → Cells wz g' (nums (List.replicate 8 0)) → RowsK w.heap.size (wz.setCell ⟨w2.heap.size, k, none⟩ (.slice (some ⟨g', 0, none⟩) 8 c')) w2.heap.size l.length (zK l k 0) (fun a => if a = k then g' else f a) (fun a => if a = k then c' else cp a)) := fun wz g' c' h1 h2 h3 h4 => by
          refine (hRw.out.on h1).setRow hlt hkn g' c' (by have := hw2.size; omega) h3 (by omega) (fun i hi hn => by have := (hRw.out.2.2.1 i hi hn).2.1; omega) _ (fun a b e => ?_) (z_there (by omega)) ?_
          · unfold zK prtK
            by_cases h : a < k ∧ b < 8
            · rw [if_pos h, if_pos h]
            · rw [if_neg h, if_neg h, if_neg (fun hh => e hh.1)]
          · have : rowL (zK l k 0) k = List.replicate 8 0 := by
              unfold rowL
              rw [List.eq_replicate_iff]
              refine ⟨by simp, fun x hx => ?_⟩
              obtain ⟨j, hj, rfl⟩ := List.mem_map.1 hx
              have := List.mem_range.1 hj
              unfold zK
              rw [if_neg (fun h => by omega), if_pos ⟨rfl, this⟩, if_neg (Nat.not_lt_zero _)]
              rfl
            rw [this]; exact h4
        clear hRw hkn
        go_wp2_with (first | (at_make; refine wpList_make_full _ rfl _ _ 27 rfl wr.heap.size 2 j0 (.int .i64 0) 1 Try.underlying27 hjf hj0 hj1 .i64 .i64 _ _ 8 rfl rfl rfl rfl (by rw [hj2]; omega) (by unfold maxLen; omega) (Nat.le_refl _) ?_))
        intro w4 hown4 hgrow4
        have hb4 : Below wr.heap.size wr w4 := (Below.refl _ _).grown hgrow4 (Nat.le_refl _) (fun _ h => by simp at h)
        have hroom := room_own hown4 (Nat.le_refl _)
        rw [Nat.mul_one] at hroom
        have hsz4 : wr.heap.size < w4.heap.size := made_lt hown4
        have CR : Cells w4 wr.heap.size (nums (List.replicate 8 0)) := cells_of_gint (irow_made hown4) (by simpa using hroom)
        have HZ : Hid (RowsK w.heap.size (w4.setCell ⟨w2.heap.size, k, none⟩ (.slice (some ⟨wr.heap.size, 0, none⟩) 8 8)) w2.heap.size l.length (zK l k 0) (fun a => if a = k then wr.heap.size else f a) (fun a => if a = k then 8 else cp a)) := HFI.out w4 wr.heap.size 8 hb4 (Nat.le_refl _) hsz4 CR
        have cT' := (hb4.cell (p := ⟨w2.heap.size, k, none⟩) hGw).trans cT
        have fT' := (hb4.frozen (p := ⟨w2.heap.size, k, none⟩) hGw).trans fT
        have hbZ : Below w2.heap.size w2 (w4.setCell ⟨w2.heap.size, k, none⟩ (.slice (some ⟨wr.heap.size, 0, none⟩) 8 8)) := (below_over hb hb4).setCell (Nat.le_refl _) _
        clear hown4 hgrow4 hroom CR HFI cT fT hb hb4
        go_wp2_with fail
        generalize hf2 : (fun a => if a = k then wr.heap.size else f a) = f2 at *
        generalize hc2 : (fun a => if a = k then 8 else cp a) = cp2 at *
        have HF2 : Hid (f2 k = wr.heap.size) := by show _ = _; rw [← hf2]; simp
        have HC2 : Hid (cp2 k = 8) := by show _ = _; rw [← hc2]; simp
        clear hf2 hc2 cT' fT'
        generalize w4.setCell ⟨w2.heap.size, k, none⟩ (.slice (some ⟨wr.heap.size, 0, none⟩) 8 8) = X4 at *
        have hGne : wr.heap.size ≠ w2.heap.size := by omega
        have hGle : w2.heap.size ≤ wr.heap.size := by omega
        generalize wr.heap.size = gz at *
        go_loopw [30] (fun i wr => ∃ m : Nat, m ≤ 8 ∧ i = .int .i64 (m : Int) ∧ Hid (RowsK w.heap.size wr w2.heap.size l.length (zK l k m) f2 cp2) ∧ Below w2.heap.size w2 wr) (fun i _ => 8 - (intOf i).toNat)
        case atStart => exact ⟨0, Nat.zero_le _, rfl, HZ.out, hbZ⟩
        case round =>
          clear HZ hbZ hGw
          obtain ⟨m, hm, rfl, hZ, hbz⟩ := hrel
          by_cases hm8 : m < 8
          · have hmi : (m : Int) < 8 := by omega
            have hr0 : zK l k m k 0 ≠ none := z_there (by omega)
            have cH := head_at hZ.out hlt hr0
            rw [HF2.out, HC2.out] at cH
            obtain ⟨_, hlt5, _, r4⟩ := hZ.out.2.2.1 k hlt hr0
            rw [HF2.out] at hlt5 r4
            obtain ⟨cV, fV⟩ := r4 m (.int .i64 ((zK l k m k m).getD 0)) (by simp [nums, rowL, hm8])
            have HSE : Hid (∀ W : World, Below wr.heap.size wr W → RowsK w.heap.size (W.setCell ⟨gz, m, none⟩ (.int .i64 (wdF l k m))) w2.heap.size l.length (zK l k (m + 1)) f2 cp2) := fun W hW => by
              have := (hZ.out.on hW).setEl hlt hr0 hm8 (z_there hm8) (wdF l k m)
              rw [z_step hm8, HF2.out] at this
              exact this
            have hGz := hZ.out.2.1
            have HKW : Hid (KM wr a K) := HKA.out.on hbz
            have hwd := HWD.out k m hlt hm8
            have hcall := fun u (hu : KM u a K) => wordAt_at a K k m (by omega) hm8 u hu
            rw [← hwd] at hcall
            clear hZ hr0 r4 hwd
            generalize (zK l k m k m).getD 0 = zv at *
            generalize wdF l k m = wv at *
            go_upto_region 12 with fail
            apply meetP
            case h =>
              intro hp
              go_region_law (go_simp; go_at_call 63; refine (hcall _ HKW.out.drew).mono ?_; rintro e w5 ⟨rfl, hb5⟩; have y0 := (hb5.cell (p := ⟨w2.heap.size, k, none⟩) hGz).trans cH; have y1 := (hb5.cell (p := ⟨gz, m, none⟩) hlt5).trans cV; have y2 := (hb5.frozen (p := ⟨gz, m, none⟩) hlt5).trans fV; dsimp only)
              all_goals (revert w5; exact hp)
            intro w5 hb5 y0 y1 y2
            have hb5' : Below wr.heap.size wr w5 := below_over (Below.refl _ _).drew hb5
            have HN : Hid (RowsK w.heap.size (w5.setCell ⟨gz, m, none⟩ (.int .i64 wv)) w2.heap.size l.length (zK l k (m + 1)) f2 cp2) := HSE.out w5 hb5'
            have hbN : Below w2.heap.size w2 (w5.setCell ⟨gz, m, none⟩ (.int .i64 wv)) := (below_over hbz hb5').setCell (by show w2.heap.size ≤ gz; exact hGle) _
            clear HSE hb5 hb5' y0 y1 y2 cH cV fV HKW hcall hbz
            go_wp2
            go_roundw
            case rel => exact ⟨m + 1, by omega, by go_num, HN.out, hbN⟩
            case measure => simp [intOf]; omega
          · obtain rfl : m = 8 := by omega
            have HN : Hid (RowsK w.heap.size wr w2.heap.size l.length (prtK l (k + 1)) f2 cp2) := by show RowsK _ _ _ _ _ _ _; rw [← z_end]; exact hZ.out
            clear hZ
            go_wp2
            go_roundw
            case rel => exact ⟨k + 1, f2, cp2, by omega, by go_num, HN.out, hbz⟩
            case measure => simp [intOf]; omega
      · obtain rfl : k = l.length := by omega
        have HG : Hid (KnB w.heap.size wr (.slice (some ⟨w2.heap.size, 0, none⟩) l.length l.length) l) := by
          refine ⟨w2.heap.size, l.length, f, cp, by rw [HE.out], hw2.size, ?_⟩
          rw [HE.out]
          exact hRw.out.congr fun i j hi hj => by unfold prtK wdK; rw [if_pos ⟨hi, hj⟩, if_pos hj]
        have hbF : Below w.heap.size w wr := below_over hw2 hb
        clear hRw
        go_wp2
        go_ret
        exact ⟨_, rfl, HG.out, hbF⟩
end Pg
end Go.Proofs.Ytffkkhaiedhaiaa
