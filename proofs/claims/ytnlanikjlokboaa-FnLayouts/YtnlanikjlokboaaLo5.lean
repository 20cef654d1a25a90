/- The contracts of the program's layout: made wide one by one till none is too far. -/
import Derived.Test.YtnlanikjlokboaaLo4
import Derived.Deep.LoopGhost
import Derived.WalkMore
import Derived.Laws.CopyOwn
import Derived.Deep.Cut
namespace Go.Proofs.Ytnlanikjlokboaa
namespace St
open Go.ChangeShapes Go.WideShapes Go.ChangeAt Go.RowKit

set_option maxRecDepth 100000 in
set_option maxHeartbeats 1000000 in
theorem widen_at (g cap gw capw : Nat) (l : List Tx.Ins) (hok : Lay.codeOk l = true) (B : Nat) (hgB : g < B) (hBw : B ≤ gw) (w : World) (hr : Row w g 0 l) (hi : IRow w gw 0 (List.replicate l.length 0)) (hm : Room w gw l.length) :
    Calls Try.prog 36 #[.slice (some ⟨g, 0, none⟩) l.length cap, .slice (some ⟨gw, 0, none⟩) l.length capw] w fun e w' => (∃ x, e = .returned x) ∧ IRow w' gw 0 (Lay.layF l) ∧ Room w' gw l.length ∧ Below B w w' := by
  have h40 := (Lay.ok_len hok).2
  have HOK : Hid (Lay.codeOk l = true) := hok
  have HR : Hid (Row w g 0 l) := hr
  have HI : Hid (IRow w gw 0 (List.replicate l.length 0)) := hi
  have HM : Hid (Room w gw l.length) := hm
  clear hok hr hi hm
  go_enter Try.func36, Try.ntmps36
  go_wp2
  go_step3
  go_wp2
  go_step3
  go_wp2
  go_loopg [] (l.length) (fun n wr => ∃ v : List Int, Lay.shorts v ≤ n ∧ Hid (Lay.Wide l v) ∧ Hid (Lay.Below1 l v) ∧ Hid (IRow wr gw 0 v) ∧ Hid (Room wr gw l.length) ∧ Below B w wr)
  case atStart => exact ⟨List.replicate l.length 0, by simp [Lay.shorts], Lay.zeros_wide l, Lay.zeros_below l, HI.out, HM.out, Below.refl _ _⟩
  case round =>
    obtain ⟨v, hs, hwd, hbl, hiv, hmv, hb⟩ := hrel
    have hlen := hwd.out.1
    have HL : Hid (v.length = l.length) := hlen
    clear hlen
    go_wp2_with fail
    refine (placesBy g cap gw capw l v h40 HL.out hwd.out.bit _ (HR.out.below hb hgB) hiv.out).mono ?_
    rw [Lay.places_len]
    rintro e w1 ⟨rfl, hp1, hm1, hlt1, hb1⟩
    have HP1 : Hid (IRow w1 wr.heap.size 0 (Lay.places l v)) := hp1
    have HR1 : Hid (Row w1 g 0 l) := (HR.out.below hb hgB).on hb1
    have HI1 : Hid (IRow w1 gw 0 v) := hiv.out.on hb1
    have HM1 : Hid (Room w1 gw l.length) := hmv.out.on hb1
    have hwB : B ≤ wr.heap.size := Nat.le_trans hBw (Nat.le_of_lt (by
      obtain ⟨⟨x, hx⟩, _⟩ := hmv.out 0 (Lay.ok_len HOK.out).1
      exact cell_lt hx))
    have hw1 : Below B w w1 := hb.trans (hb1.mono hwB)
    have hB1 : B ≤ w1.heap.size := Nat.le_trans hwB hb1.size
    clear hp1 hm1 hb1 hiv hmv hb
    generalize hgp : wr.heap.size = gp at *
    clear hgp
    go_wp2_with fail
    go_loopg [11] (l.length) (fun n i wq => ∃ k : Nat, k + n = l.length ∧ i = .int .i64 k ∧ Hid (∀ j, j < k → Lay.far l v j = false) ∧ Below w1.heap.size w1 wq)
    case atStart => exact ⟨0, by omega, rfl, fun j h => absurd h (Nat.not_lt_zero _), Below.refl _ _⟩
    case round =>
      obtain ⟨k, hk, rfl, hno, hbq⟩ := hrel
      by_cases hlt : k < l.length
      · have hki : (k : Int) < (l.length : Int) := by omega
        have hki0 : (0 : Int) ≤ (k : Int) := by omega
        go_wp2_with fail
        refine (tooFar g cap gw capw gp _ l v HOK.out HL.out hwd.out.bit k hlt _ (HR1.out.on hbq) (HI1.out.on hbq) (HP1.out.on hbq)).mono ?_
        rintro e w2 ⟨rfl, hb2⟩
        have hbq2 : Below w1.heap.size w1 w2 := below_over hbq hb2
        clear hbq hb2
        cases hf : Lay.far l v k
        · have HNO : Hid (∀ j, j < k + 1 → Lay.far l v j = false) := by
            show ∀ j, _ → _
            intro j hj
            by_cases e : j = k
            · rw [e]; exact hf
            · exact hno.out j (by omega)
          go_wp2_with fail
          go_roundg (l.length - (k + 1))
          case measure => omega
          case rel => exact ⟨k + 1, by omega, by go_num, HNO.out, hbq2⟩
        · have HSH : Hid (Lay.shorts (v.set k 1) < Lay.shorts v) := Lay.shorts_set (by rw [HL.out]; exact hlt) (Lay.far_wd hf).1
          have HW : Hid (Lay.Wide l (v.set k 1)) := Lay.wide_set hwd.out hlt (Lay.far_wd hf).2
          have HBL : Hid (Lay.Below1 l (v.set k 1)) := Lay.below_set hwd.out hwd.out (Lay.Le.refl _) hbl.out hlt hf
          have HI2 : Hid (IRow (w2.setCell ⟨gw, k, none⟩ (.int .i64 1)) gw 0 (v.set k 1)) := irow_set 1 (HI1.out.on hbq2)
          have HM2 : Hid (Room w2 gw l.length) := HM1.out.on hbq2
          obtain ⟨⟨x0, d0⟩, f0⟩ := HM2.out k hlt
          have hw2 : Below B w w2 := hw1.trans (hbq2.mono hB1)
          go_wp2_with fail
          go_roundg (Lay.shorts (v.set k 1))
          case measure => have := HSH.out; omega
          case rel => exact ⟨v.set k 1, Nat.le_refl _, HW.out, HBL.out, HI2.out, HM2.out.set _ _, hw2.setCell hBw _⟩
      · have HLE : Hid (v = Lay.layF l) := Lay.lay_of ⟨⟨hwd.out, fun j hj => hno.out j (by omega)⟩, hbl.out⟩
        have hwq : Below B w wr := hw1.trans (hbq.mono hB1)
        have HIQ : Hid (IRow wr gw 0 v) := HI1.out.on hbq
        have HMQ : Hid (Room wr gw l.length) := HM1.out.on hbq
        go_wp2_with fail
        rw [Exit.noGoto_ret]
        refine bodyPost_ret (results_none rfl _ _ _) rfl ?_
        exact ⟨⟨_, rfl⟩, by rw [← HLE.out]; exact HIQ.out, HMQ.out, hwq⟩
/-- A row of numbers that the call made. -/
def IGot (B : Nat) (w : World) (v : Value) (l : List Int) : Prop := ∃ g cap, v = .slice (some ⟨g, 0, none⟩) l.length cap ∧ B ≤ g ∧ g < w.heap.size ∧ IRow w g 0 l ∧ Room w g l.length
theorem IGot.on {B : Nat} {u w : World} {v : Value} {l : List Int} (h : IGot B u v l) (hb : Below u.heap.size u w) : IGot B w v l := by
  obtain ⟨g, cap, rfl, h1, h2, h3, h4⟩ := h
  exact ⟨g, cap, rfl, h1, Nat.lt_of_lt_of_le h2 hb.size, h3.on hb, h4.on hb⟩
theorem igot_nil (w : World) (B : Nat) (hB : B ≤ w.heap.size) (t : TypeId) : IGot B (w.alloc (.cells #[] t)) (.slice (some ⟨w.heap.size, 0, none⟩) 0 0) [] :=
  ⟨w.heap.size, 0, rfl, hB, by simp, IRow.nil _ _ _, fun i hi => absurd hi (Nat.not_lt_zero _)⟩
def layC (l : List Tx.Ins) : List Int := if Lay.codeOk l then Lay.layF l else []
theorem row_lt {w : World} {g o : Nat} {l : List Tx.Ins} (h : Row w g o l) (h0 : 0 < l.length) : g < w.heap.size := cell_lt (h 0 _ (List.getElem?_eq_getElem h0)).1

theorem wpList_mv {P : Program} {w : World} {ops : Array Oper} {rest : List Oper} {o : Oper} {a : Act} {Q : Exit → Act → World → Prop} (x : Operand) (hg : o.guard = none) (ho : o.op = .move x) (h : wpList P ops Q rest (a.put o.dst (a.eval x)) w) : wpList P ops Q (o :: rest) a w := by
  refine wpList_plain hg fun K hK => ?_
  unfold Oper.wp
  simp [execOp, ho]
  exact hK _ _ h
theorem zeros_row (w : World) (n : Nat) (h : n ≤ 40) (t : TypeId) (cs : Array Value) (hcs : cs = Array.replicate 40 (.int .i64 0)) : IRow (w.alloc (.cells cs t)) w.heap.size 0 (List.replicate n 0) ∧ Room (w.alloc (.cells cs t)) w.heap.size n := by
  have hc : ∀ i, i < n → (w.alloc (.cells cs t)).cell? ⟨w.heap.size, i, none⟩ = some (.int .i64 0) := by
    intro i hi
    have h40 : i < 40 := by omega
    subst hcs
    simp only [World.cell?, heap_alloc_new]
    simp [h40]
  refine ⟨?_, ?_⟩
  · intro j x hj
    rw [List.getElem?_replicate] at hj
    split at hj
    · rename_i hjn
      injection hj with hj
      subst hj
      rw [Nat.zero_add]
      exact hc j hjn
    · simp at hj
  · intro i hi
    exact ⟨⟨_, hc i hi⟩, by simp only [World.frozen?, heap_alloc_new]; simp⟩
theorem own_blk {w : World} {B e n g cap : Nat} {xs : List Value} (h : w.ownsRow B e 1 (.slice (some ⟨g, 0, none⟩) n cap) n xs) : ∃ cur : List Value, w.heap[g]? = some (.cells cur.toArray e (0, 0)) ∧ cur.length = cap := by
  obtain ⟨_, h | ⟨g', cap', cur, hv, _, hblk, _, _, hsz, _⟩⟩ := h
  · simp at h
  · injection hv with h1 h2 h3
    simp at h1
    subst h1 h3
    exact ⟨cur.toList, by simpa using hblk, by simpa using hsz⟩
theorem splice_row {w : World} {g : Nat} {t : TypeId} {cur : List Value} {l : List Int} (hl : cur.length = l.length) (h : w.heap[g]? = some (.cells (splice cur 0 (l.map fun n => Value.int .i64 n)).toArray t (0, 0))) : IRow w g 0 l ∧ Room w g l.length := by
  have e : splice cur 0 (l.map fun n => Value.int .i64 n) = l.map fun n => Value.int .i64 n := by
    unfold splice
    rw [List.take_zero, List.nil_append, List.drop_of_length_le (by rw [List.length_map]; omega), List.append_nil]
  rw [e] at h
  have hc : ∀ j (hj : j < l.length), w.cell? ⟨g, j, none⟩ = some (.int .i64 l[j]) := by
    intro j hj
    simp [World.cell?, h, hj]
  refine ⟨?_, ?_⟩
  · intro j x hj
    obtain ⟨hj', rfl⟩ := List.getElem?_eq_some_iff.1 hj
    rw [Nat.zero_add]
    exact hc j hj'
  · intro i hi
    exact ⟨⟨_, hc i hi⟩, by simp [World.frozen?, h]⟩
set_option maxRecDepth 100000 in
set_option maxHeartbeats 1000000 in
theorem implLayoutOf (g cap : Nat) (l : List Tx.Ins) (hl : l.length ≤ 1048576) (w : World) (hr : Row w g 0 l) :
    Calls Try.prog 10 #[.slice (some ⟨g, 0, none⟩) l.length cap] w fun e w' => ∃ x, e = .returned x ∧ IGot w.heap.size w' x (layC l) ∧ Below w.heap.size w w' := by
  obtain ⟨i0, hif, hz0, hz1, hz2⟩ := info_parts infoN
  have HR : Hid (Row w g 0 l) := hr
  clear hr
  cases hok : Lay.codeOk l
  · have HN : Hid (layC l = []) := by
      show layC l = []
      simp [layC, hok]
    go_enter Try.func10, Try.ntmps10
    go_wp2_with fail
    refine (implCodeOk g cap l hl _ HR.out).mono ?_
    rw [hok]
    rintro e w1 ⟨rfl, hb1⟩
    go_wp2
    go_ret
    exact ⟨_, rfl, by rw [HN.out]; exact igot_nil w1 _ hb1.size _, hb1.alloc hb1.size _⟩
  · have HN : Hid (layC l = Lay.layF l) := by
      show layC l = Lay.layF l
      simp [layC, hok]
    have HOK : Hid (Lay.codeOk l = true) := hok
    have h40 := (Lay.ok_len hok).2
    have hpos := (Lay.ok_len hok).1
    have h40i : (l.length : Int) ≤ 40 := by omega
    have h0i : (0 : Int) ≤ (l.length : Int) := by omega
    go_enter Try.func10, Try.ntmps10
    go_wp2_with fail
    refine (implCodeOk g cap l hl _ HR.out).mono ?_
    rw [hok]
    rintro e w1 ⟨rfl, hb1⟩
    have HR1 : Hid (Row w1 g 0 l) := HR.out.on hb1
    go_wp2_with fail
    obtain ⟨W, hW⟩ : ∃ W : World, W = w1.alloc (.cells (Array.replicate 40 (.int .i64 0)) 55) := ⟨_, rfl⟩
    have hz := zeros_row w1 l.length h40 55 _ rfl
    have hbW : Below w1.heap.size w1 W := by rw [hW]; exact (Below.refl _ _).alloc (Nat.le_refl _) _
    rw [← hW] at hz
    change Calls Try.prog _ _ (w1.alloc (.cells (Array.replicate 40 (.int .i64 0)) 55)) _
    rw [← hW]
    have hgw : g < w1.heap.size := row_lt HR1.out hpos
    have hszW : w1.heap.size < W.heap.size := by rw [hW]; simp
    clear hW
    refine (widen_at g cap w1.heap.size l.length l HOK.out w1.heap.size hgw (Nat.le_refl _) W (HR1.out.on hbW) hz.1 hz.2).mono ?_
    rintro e w2 ⟨⟨x, rfl⟩, hi2, hm2, hb2⟩
    have hw2 : Below w1.heap.size w1 w2 := hbW.trans hb2
    have hww2 : Below w.heap.size w w2 := below_over hb1 hw2
    have HI2 : Hid (IRow w2 w1.heap.size 0 (Lay.layF l)) := hi2
    have HLL : Hid ((Lay.layF l).length = l.length) := Lay.lay_len l
    clear hz hbW hi2 hm2 hb2 hw2 HR1 hb1 hszW
    generalize w1.heap.size = gw at *
    have hlm : ∀ v ∈ ((Lay.layF l).map fun n => Value.int .i64 n), v.oneCell' = true := by
      intro v hv
      obtain ⟨n, _, rfl⟩ := List.mem_map.1 hv
      rfl
    have HLM : Hid (∀ v ∈ ((Lay.layF l).map fun n => Value.int .i64 n), v.oneCell' = true) := hlm
    have HLC : Hid (((Lay.layF l).map fun n => Value.int .i64 n).length = Nat.min l.length l.length) := by
      show _ = _
      rw [List.length_map, HLL.out]; simp
    obtain ⟨cs, hcs⟩ : ∃ cs, cs = (Lay.layF l).map fun n => Value.int .i64 n := ⟨_, rfl⟩
    have HCS : Hid (cs = (Lay.layF l).map fun n => Value.int .i64 n) := hcs
    rw [← hcs] at HLM HLC
    clear hlm hcs
    go_upto_region 7 with (at_make; refine wpList_make_full _ rfl _ _ 25 rfl w2.heap.size 2 i0 (.int .i64 0) 1 Try.underlying25 hif hz0 hz1 .i64 .i64 _ _ l.length rfl rfl rfl rfl (by rw [hz2]; omega) (by unfold maxLen; omega) (Nat.le_refl _) ?_; intro w3 hown3 hgrow3; obtain ⟨cur, hblk, hcur⟩ := own_blk hown3; have HBLK : Hid (w3.heap[w2.heap.size]? = some (.cells cur.toArray 2 (0, 0)) ∧ cur.length = l.length) := ⟨hblk, hcur⟩; clear hblk hcur)
    refine wp_region_lit ?_
    refine wpList_mv (.tmp 5) rfl rfl ?_
    refine wpList_mv (.tmp 4) rfl rfl ?_
    refine wpList_copy_splice rfl (.tmp 21) (.tmp 22) 25 25 rfl 2 Try.underlying25 (by kernel_rfl) _ _ _ _ _ _ rfl rfl w2.heap.size 0 cur 2 HBLK.out.1 cs HLC.out ?hpos ?hfit HLM.out w.heap.size w ?hb ?hBg ?_
    rotate_right
    intro w4 hg4 hb4
    case hb => exact below_over hww2 ((Below.refl _ _).grown hgrow3 (Nat.le_refl _) (fun _ h => by simp at h))
    case hBg => exact hww2.size
    case hfit => rw [HLC.out, HBLK.out.2]; simp
    case hpos =>
      intro _
      refine ⟨rfl, _, rfl, fun j v hj => ?_⟩
      rw [HCS.out, List.getElem?_map] at hj
      have HI3 : IRow w3 gw 0 (Lay.layF l) := HI2.out.on ((Below.refl _ _).grown hgrow3 (Nat.le_refl _) (fun _ h => by simp at h))
      cases hq : (Lay.layF l)[j]? with
      | none => rw [hq] at hj; simp at hj
      | some n =>
        rw [hq] at hj
        simp at hj
        subst hj
        have := HI3 j n hq
        simp only [Go.WideShapes.add_plain]
        exact this
    have hgg := hg4.out
    rw [HCS.out] at hgg
    obtain ⟨hi4, hm4⟩ := splice_row (by rw [HBLK.out.2, HLL.out]) hgg
    have HI4 : Hid (IRow w4 w2.heap.size 0 (Lay.layF l)) := hi4
    have HM4 : Hid (Room w4 w2.heap.size (Lay.layF l).length) := hm4
    have hsz4 : Hid (w2.heap.size < w4.heap.size) := by
      show _ < _
      rcases Nat.lt_or_ge w2.heap.size w4.heap.size with h | h
      · exact h
      · rw [Array.getElem?_eq_none h] at hgg
        simp at hgg
    clear hgg hi4 hm4 hg4
    go_wp2
    go_ret
    refine ⟨_, rfl, ?_, hb4⟩
    rw [HN.out]
    exact ⟨w2.heap.size, l.length, by rw [HLL.out]; rfl, hww2.size, hsz4.out, HI4.out, HM4.out⟩
end St
end Go.Proofs.Ytnlanikjlokboaa
