/- Contracts of the specification's effect of a step (Sf8). -/
import Derived.Test.YtfdlljdljefkfaaGreatDoorJSf0
namespace Go.Proofs.YtfdlljdljefkfaaGreatDoor
namespace Pg
open Go.ChangeShapes Go.WideShapes Go.ChangeAt Go.RowKit St

theorem own_store {w : World} {B g n cap : Nat} {e : TypeId} {xs : List Value} (h : w.ownsRow B e 1 (.slice (some ⟨g, 0, none⟩) n cap) n xs) (i : Nat) (x : Value) : (w.setCell ⟨g, i, none⟩ x).ownsRow B e 1 (.slice (some ⟨g, 0, none⟩) n cap) n (xs.set i x) := by
  obtain ⟨h1, h2⟩ := h
  refine ⟨by simpa using h1, .inr ?_⟩
  rcases h2 with ⟨hn, _⟩ | ⟨g1, cap1, cur, hv, hB, hg, hle, hm, hs, ht⟩
  · cases hn
  · injection hv with e1 e2 e3
    injection e1 with e1
    injection e1 with e1
    subst e1 e3
    refine ⟨_, _, cur.setIfInBounds i x, rfl, hB, heap_setCell_same _ _ _ _ _ _ hg, hle, hm, by simpa using hs, ?_⟩
    rw [Array.toList_setIfInBounds, ← ht, List.take_set]
theorem own_cellW {w : World} {B g n cap : Nat} {e : TypeId} {xs : List Value} (h : w.ownsRow B e 1 (.slice (some ⟨g, 0, none⟩) n cap) n xs) {i : Nat} (hi : i < n) : (∃ v, w.cell? ⟨g, i, none⟩ = some v) ∧ w.frozen? ⟨g, i, none⟩ = false := by
  obtain ⟨cur, hg, hl⟩ : ∃ cur : List Value, w.heap[g]? = some (.cells cur.toArray e (0, 0)) ∧ cur.length = cap := by
    obtain ⟨_, h | ⟨g', cap', cur, hv, _, hblk, _, _, hsz, _⟩⟩ := h
    · simp at h
    · injection hv with h1 h2 h3
      simp at h1
      subst h1 h3
      exact ⟨cur.toList, by simpa using hblk, by simpa using hsz⟩
  obtain ⟨a, c, hv, hc⟩ := own_form h
  injection hv with _ _ e3
  subst e3
  exact ⟨⟨cur[i]'(by omega), by simp [World.cell?, hg, show i < cur.length from by omega]⟩, by simp [World.frozen?, hg]⟩
theorem own_turn {B : Nat} {w : World} {x1 : Option Addr} {n1 y1 g c : Nat} {st lo : List Int} (h : OwnS B w (.slice x1 n1 y1) (.slice (some ⟨g, 0, none⟩) lo.length c) (st, lo)) (i : Nat) (x : Int) : OwnS B (w.setCell ⟨g, i, none⟩ (.int .i64 x)) (.slice x1 n1 y1) (.slice (some ⟨g, 0, none⟩) lo.length c) (st, lo.set i x) := by
  obtain ⟨h1, h2, h3⟩ := h
  refine ⟨?_, ?_, h3⟩
  · rcases h3 with h3 | h3
    · exact own_off h1 (grown_cell w ⟨g, i, none⟩ _) (by rw [h3]; simp)
    · exact own_off h1 (grown_cell w ⟨g, i, none⟩ _) (by simpa [Value.ownBlock] using h3)
  · have := own_store h2 i (.int .i64 x)
    have e : nums (lo.set i x) = (nums lo).set i (.int .i64 x) := by simp [nums, List.map_set]
    show World.ownsRow _ _ _ _ _ _ _
    rw [e]
    simpa using this

set_option maxRecDepth 100000 in
set_option maxHeartbeats 4000000 in
theorem l7_3 (B : Nat) (p : Prg) (hok' : okP p = true) (hsp : SmallP p) (w : World) (pa : Option Addr) (pc : Nat) (hp : SK front B w (.slice pa p.length pc) p) (a b gives : Int) (ha0 : 0 ≤ a) (ha8 : a < 8) (z1 z2 : Option Addr) (c1 c2 : Nat) (st lo : List Int) (hst : okSt p (st, lo)) (hc1 : st.length ≤ c1) (hs : SI true B w (.slice z1 st.length c1) st) (hl : SI true B w (.slice z2 lo.length c2) lo) :
    Calls Tryz.prog 21 #[.agg #[.slice pa p.length pc], .int .i64 gives, .agg #[.int .i64 3, .int .i64 a, .int .i64 b], .agg #[.slice z1 st.length c1, .slice z2 lo.length c2]] w fun e w' => L7Post (effF p gives (3, a, b) (st, lo)) w e w' := by
  have HOKP : Hid (okP p = true) := hok'
  have HSP : Hid (SmallP p) := hsp
  have h6 : p.length ≤ 6 := (okP_len hok').2
  have hp0 : 0 < p.length := (okP_len hok').1
  have HSU : Hid (SupOk p p.length) := (ok_sup hok').sup
  have HP : Hid (SK front B w (.slice pa p.length pc) p) := hp
  have HS : Hid (SI true B w (.slice z1 st.length c1) st) := hs
  have HL : Hid (SI true B w (.slice z2 lo.length c2) lo) := hl
  obtain ⟨hst8, hlo8, hkst, hklo⟩ := okSt_iff.1 hst
  dsimp only at hst8 hlo8 hkst hklo
  have HST : Hid (st.length ≤ 8 ∧ lo.length = 8) := ⟨hst8, hlo8⟩
  have HKS : Hid (st.all (kindB p.length) = true ∧ lo.all (kindB p.length) = true) := ⟨hkst, hklo⟩
  have HBW : Hid (B ≤ w.heap.size) := si_base hl (by omega)
  obtain ⟨T1, HT1⟩ : ∃ T, Hid ((if st.length < 1 then (-3 : Int) else topF st 1) = T) := ⟨_, rfl⟩
  obtain ⟨T2, HT2⟩ : ∃ T, Hid ((if st.length < 2 then (-3 : Int) else topF st 2) = T) := ⟨_, rfl⟩
  clear hok' hsp hp hs hl hst hlo8 hkst hklo
  obtain ⟨W, hW⟩ : ∃ W, W = (((w.alloc (.cells #[.slice pa p.length pc] 37)).alloc (.cells #[.int .i64 3, .int .i64 a, .int .i64 b] 39)).alloc (.cells #[.slice z1 st.length c1, .slice z2 lo.length c2] 32)).alloc (.cells #[.slice none 0 0, .slice none 0 0] 32) := ⟨_, rfl⟩
  have hwW : Below w.heap.size w W := by rw [hW]; exact ((((Below.refl _ _).alloc (Nat.le_refl _) _).alloc (by simp) _).alloc (by simp; omega) _).alloc (by simp; omega) _
  have C0 : Hid (Cells W w.heap.size [.slice pa p.length pc]) := by rw [hW]; exact (((Cells.new w _ rfl _ _).alloc _).alloc _).alloc _
  have C1 : Hid (Cells W (w.heap.size + 1) [.int .i64 3, .int .i64 a, .int .i64 b]) := by rw [hW]; exact ((Cells.new (w.alloc _) _ (by simp) _ _).alloc _).alloc _
  have C2 : Hid (Cells W (w.heap.size + 1 + 1) [.slice z1 st.length c1, .slice z2 lo.length c2]) := by rw [hW]; exact (Cells.new ((w.alloc _).alloc _) _ (by simp) _ _).alloc _
  have R0 : Hid (Cells W (w.heap.size + 1 + 1 + 1) [.slice none 0 0, .slice none 0 0]) := by rw [hW]; exact Cells.new (((w.alloc _).alloc _).alloc _) _ (by simp) _ _
  have HZ : Hid (W.heap.size = w.heap.size + 1 + 1 + 1 + 1) := by rw [hW]; show _ = _; simp
  have CN : Hid (Cells (W.alloc (.cells #[.slice none 0 0, .slice none 0 0] 32)) W.heap.size [.slice none 0 0, .slice none 0 0]) := Cells.new W _ rfl _ _
  have hbV : Below W.heap.size W (W.alloc (.cells #[.slice none 0 0, .slice none 0 0] 32)) := (Below.refl _ _).alloc (Nat.le_refl _) _
  obtain ⟨j, rfl⟩ : ∃ j : Nat, a = (j : Int) := ⟨a.toNat, by omega⟩
  have HJ8 : Hid (j < lo.length) := by have := HST.out; show j < _; omega
  have hji : (j : Int) < (lo.length : Int) := by have := HJ8.out; omega
  clear ha0 ha8
  go_enter Tryz.func21, Tryz.ntmps21
  go_wp2_with fail
  rw [← hW]
  clear hW
  refine (l7Back_at B z1 c1 st (by omega) 1 (by omega) (by omega) W (SI.on HS.out (Keep.of hwW))).mono ?_
  rw [HT1.out]
  rintro e w1 ⟨rfl, rfl⟩
  obtain ⟨t0, _⟩ := C2.out.g0
  go_wp2_with fail
  refine (l7Back_at B z1 c1 st (by omega) 2 (by omega) (by omega) W (SI.on HS.out (Keep.of hwW))).mono ?_
  rw [HT2.out]
  rintro e w1 ⟨rfl, rfl⟩
  clear t0
  obtain ⟨i0, _⟩ := (C1.out.on hbV).g0
  obtain ⟨i1, _⟩ := (C1.out.on hbV).g1
  obtain ⟨i2, _⟩ := (C1.out.on hbV).g2
  obtain ⟨t0, _⟩ := (C2.out.on hbV).g0
  obtain ⟨t1, _⟩ := (C2.out.on hbV).g1
  obtain ⟨p0, _⟩ := (C0.out.on hbV).g0
  by_cases hn : st.length < 1
  · have HEF : Hid (effF p gives (3, (j : Int), b) (st, lo) = none) := by
      show _ = _
      simp only [effF]; simp [hn]
    have RA := R0.out.on hbV
    obtain ⟨r0, q0⟩ := RA.g0
    obtain ⟨r1, q1⟩ := RA.g1
    have R5 := (RA.s0 (.slice none 0 0)).s1 (.slice none 0 0)
    obtain ⟨e0, _⟩ := R5.g0
    obtain ⟨e1, _⟩ := R5.g1
    have CNX : Cells (W.alloc (.cells #[.slice none 0 0, .slice none 0 0] 32)) W.heap.size [.slice none 0 0, .slice none 0 0] := CN.out.on (Below.refl _ _)
    obtain ⟨n0, _⟩ := CNX.g0
    obtain ⟨n1, _⟩ := CNX.g1
    have HB : Hid (Below w.heap.size w (((W.alloc (.cells #[.slice none 0 0, .slice none 0 0] 32)).setCell ⟨w.heap.size + 1 + 1 + 1, 0, none⟩ (.slice none 0 0)).setCell ⟨w.heap.size + 1 + 1 + 1, 1, none⟩ (.slice none 0 0))) := ((below_over hwW hbV).setCell (p := ⟨w.heap.size + 1 + 1 + 1, 0, none⟩) (by simp; omega) _).setCell (p := ⟨w.heap.size + 1 + 1 + 1, 1, none⟩) (by simp; omega) _
    clear RA R5 CNX 
    go_wp2
    refine bodyPost_ret (v := .tuple #[.agg #[.slice none 0 0, .slice none 0 0], .bool false]) (by simp [results, Tryz.results21, go_sem, e0, e1]) rfl ?_
    exact ⟨.inr ⟨HEF.out, none, 0, 0, none, 0, 0, rfl⟩, HB.out⟩
  · have HQ1 : Hid (T1 = topF st 1) := by show _ = _; rw [← HT1.out, if_neg (by omega)]
    have HEF : Hid (effF p gives (3, (j : Int), b) (st, lo) = some (st.take (st.length - 1), lo.set j T1)) := by
      show _ = _
      simp only [effF]; simp [hn, HQ1.out]
    have hwr : wrap64 ((st.length : Int) - 1) = ((st.length - 1 : Nat) : Int) := by unfold wrap64; omega
    go_wp2_with fail
    rw [show ((st.length : Int) - 1) = ((st.length - 1 : Nat) : Int) from by omega]
    refine (l7Put_at B z1 z2 c1 c2 st lo (by have := HST.out; omega) (by have := HST.out; omega) hc1 (st.length - 1) (Nat.sub_le _ _) 0 [] (by simp) (W.alloc (.cells #[.slice none 0 0, .slice none 0 0] 32)) (SI.on HS.out (Keep.of (below_over hwW hbV))) (SI.on HL.out (Keep.of (below_over hwW hbV))) none (SI.nil true B _)).mono ?_
    rintro e w5 ⟨x1, y1, x2, y2, rfl, hown, hb5⟩
    have hW5 : Below W.heap.size W w5 := below_over hbV hb5
    rw [List.append_nil] at hown ⊢
    obtain ⟨g2, y2', hx2, hg2, -⟩ := own_irow hown.2.1 (by have := HST.out; show 0 < lo.length; omega)
    injection hx2 with hx2 _ hy2
    subst hx2 hy2
    obtain ⟨LL, hLL⟩ : ∃ LL, LL = (st.take (st.length - 1)).length := ⟨_, rfl⟩
    rw [← hLL] at hown ⊢
    have hd8 : decide (LL ≤ 8) = true := by have := HST.out; rw [hLL]; simp; omega
    rw [hd8]
    have HLL : Hid (LL = (st.take (st.length - 1)).length) := hLL
    have hb6 : Below w5.heap.size w5 (w5.alloc (.cells #[.slice x1 LL y1, .slice (some ⟨g2, 0, none⟩) lo.length y2] 32)) := allocBelow _ _
    have hW6 : Below W.heap.size W (w5.alloc (.cells #[.slice x1 LL y1, .slice (some ⟨g2, 0, none⟩) lo.length y2] 32)) := below_over hW5 hb6
    have HO6 : Hid (OwnS W.heap.size (w5.alloc (.cells #[.slice x1 LL y1, .slice (some ⟨g2, 0, none⟩) lo.length y2] 32)) (.slice x1 LL y1) (.slice (some ⟨g2, 0, none⟩) lo.length y2) (st.take (st.length - 1), lo)) := ⟨ownBase (ownOn hown.1 hb6) hbV.size, ownBase (ownOn hown.2.1 hb6) hbV.size, hown.2.2⟩
    have hgl : g2 < w5.heap.size := (hown.2.1.lt g2 rfl).2
    have hgW : W.heap.size ≤ g2 := Nat.le_trans hbV.size hg2
    have C6 : Cells (w5.alloc (.cells #[.slice x1 LL y1, .slice (some ⟨g2, 0, none⟩) lo.length y2] 32)) w5.heap.size [.slice x1 LL y1, .slice (some ⟨g2, 0, none⟩) lo.length y2] := Cells.new w5 _ rfl _ _
    have CI : Cells (w5.alloc (.cells #[.slice x1 LL y1, .slice (some ⟨g2, 0, none⟩) lo.length y2] 32)) (w.heap.size + 1) [.int .i64 3, .int .i64 j, .int .i64 b] := C1.out.on hW6
    obtain ⟨i0, _⟩ := CI.g0
    obtain ⟨i1, _⟩ := CI.g1
    obtain ⟨⟨v6, d6⟩, f6⟩ := own_cellW HO6.out.2.1 HJ8.out
    obtain ⟨m0, _⟩ := C6.g0
    obtain ⟨m1, _⟩ := C6.g1
    have C7 := C6.far ⟨g2, j, none⟩ (.int .i64 T1) (by simp; omega)
    obtain ⟨n0, _⟩ := C7.g0
    obtain ⟨n1, _⟩ := C7.g1
    have hb7 : Below W.heap.size W ((w5.alloc (.cells #[.slice x1 LL y1, .slice (some ⟨g2, 0, none⟩) lo.length y2] 32)).setCell ⟨g2, j, none⟩ (.int .i64 T1)) := hW6.setCell (p := ⟨g2, j, none⟩) hgW _
    have R7 := R0.out.on hb7
    obtain ⟨r0, q0⟩ := R7.g0
    obtain ⟨r1, q1⟩ := R7.g1
    have R8 := (R7.s0 (.slice x1 LL y1)).s1 (.slice (some ⟨g2, 0, none⟩) lo.length y2)
    obtain ⟨e0, _⟩ := R8.g0
    obtain ⟨e1, _⟩ := R8.g1
    have HO7 : Hid (OwnS w.heap.size ((((w5.alloc (.cells #[.slice x1 LL y1, .slice (some ⟨g2, 0, none⟩) lo.length y2] 32)).setCell ⟨g2, j, none⟩ (.int .i64 T1)).setCell ⟨w.heap.size + 1 + 1 + 1, 0, none⟩ (.slice x1 LL y1)).setCell ⟨w.heap.size + 1 + 1 + 1, 1, none⟩ (.slice (some ⟨g2, 0, none⟩) lo.length y2)) (.slice x1 LL y1) (.slice (some ⟨g2, 0, none⟩) lo.length y2) (st.take (st.length - 1), lo.set j T1)) := own_cell2 (own_turn HO6.out j T1) (by have := HZ.out; omega) hwW.size
    have HB7 : Hid (Below w.heap.size w ((((w5.alloc (.cells #[.slice x1 LL y1, .slice (some ⟨g2, 0, none⟩) lo.length y2] 32)).setCell ⟨g2, j, none⟩ (.int .i64 T1)).setCell ⟨w.heap.size + 1 + 1 + 1, 0, none⟩ (.slice x1 LL y1)).setCell ⟨w.heap.size + 1 + 1 + 1, 1, none⟩ (.slice (some ⟨g2, 0, none⟩) lo.length y2))) := ((below_over hwW hb7).setCell (p := ⟨w.heap.size + 1 + 1 + 1, 0, none⟩) (by simp; omega) _).setCell (p := ⟨w.heap.size + 1 + 1 + 1, 1, none⟩) (by simp; omega) _
    clear R7 R8 C6 C7 CI hown hLL hb5 hg2 hgl t0 t1 p0 i2
    go_wp2
    refine bodyPost_ret (v := .tuple #[.agg #[.slice x1 LL y1, .slice (some ⟨g2, 0, none⟩) lo.length y2], .bool true]) (by simp [results, Tryz.results21, go_sem, e0, e1]) rfl ?_
    have hLL := HLL.out
    subst hLL
    exact ⟨.inl ⟨(st.take (st.length - 1), lo.set j T1), x1, y1, some ⟨g2, 0, none⟩, y2, HEF.out, by simp, by have := HO7.out; simpa using this⟩, HB7.out⟩
end Pg
end Go.Proofs.YtfdlljdljefkfaaGreatDoor
