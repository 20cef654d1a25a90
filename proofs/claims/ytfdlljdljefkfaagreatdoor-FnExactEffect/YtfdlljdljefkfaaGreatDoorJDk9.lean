/- Contracts of the desk's doing of a step (Dk9). -/
import Derived.Test.YtfdlljdljefkfaaGreatDoorJDk5
import Derived.Test.YtfdlljdljefkfaaGreatDoorJDk6
namespace Go.Proofs.YtfdlljdljefkfaaGreatDoor
namespace Pg
open Go.ChangeShapes Go.WideShapes Go.ChangeAt Go.RowKit St

set_option maxRecDepth 100000 in
set_option maxHeartbeats 4000000 in
theorem do_3 (B : Nat) (p : Prg) (hok' : okP p = true) (hsp : SmallP p) (u W0 : World) (fs : List Nat) (w : World) (k : Nat) (pa : Option Addr) (pc : Nat) (hp : SK front B u (.slice pa p.length pc) p) (d : Dsk) (hok : d.ok p) (h : DeskAt u W0 fs w k (.slice pa p.length pc) d) (a : Nat) (b gives : Int) (ha : a < 8) :
    Calls Tryz.prog 64 #[.pointer (some ⟨k, 0, none⟩), .agg #[.int .i64 3, .int .i64 a, .int .i64 b], .int .i64 gives] w fun e w' => (∃ v, e = .returned v) ∧ DeskAt u W0 fs w' k (.slice pa p.length pc) (doD p gives (3, a, b) d) := by
  have HP : Hid (SK front B u (.slice pa p.length pc) p) := hp
  have HSP : Hid (SmallP p) := hsp
  have hp0 : 0 < p.length := (okP_len hok').1
  have h6 : p.length ≤ 6 := (okP_len hok').2
  have HSU : Hid (SupOk p p.length) := (ok_sup hok').sup
  have HH : Hid (DeskAt u W0 fs w k (.slice pa p.length pc) d) := h
  have HOK : Hid (d.ok p) := hok
  obtain ⟨W, hW⟩ : ∃ W, W = w.alloc (.cells #[.int .i64 3, .int .i64 a, .int .i64 b] 39) := ⟨_, rfl⟩
  have hwW : Below w.heap.size w W := by rw [hW]; exact (Below.refl _ _).alloc (Nat.le_refl _) _
  have HF : Hid (DeskAt u W (w.heap.size :: fs) W k (.slice pa p.length pc) d) := by rw [hW]; exact h.fresh _
  have CI : Hid (Cells W w.heap.size [.int .i64 3, .int .i64 a, .int .i64 b]) := by rw [hW]; exact Cells.new w _ rfl _ _
  have HZ : Hid (W.heap.size = w.heap.size + 1) := by rw [hW]; show _ = _; simp
  have HDO : Hid (doD p gives (3, a, b) d = d.sto a) := by show _ = _; simp [doD]
  have HWB : Hid (Below w.heap.size w W) := hwW
  clear h hp hsp hok hok' hwW
  obtain ⟨sv0, g, c, ev0, hr0⟩ := HF.out
  have HL : Hid (DeskL u W (w.heap.size :: fs) W k (.slice pa p.length pc) g c d) := ⟨_, _, hr0⟩
  have HS : Hid (∀ w' d2, DeskL u W (w.heap.size :: fs) w' k (.slice pa p.length pc) g c d2 → w'.cell? ⟨k, 2, none⟩ = some (.slice (some ⟨g, 0, none⟩) 8 c) ∧ w'.cell? ⟨w.heap.size, 1, none⟩ = some (.int .i64 a)) := by
    show ∀ w' d2, _
    intro w' d2 h'
    refine ⟨?_, ((h'.at.kept (by simp) CI.out).g1).1⟩
    obtain ⟨_, _, hr⟩ := h'
    exact (hr.cells.g2).1
  have HD0 : Hid (DeskL u W (w.heap.size :: fs) W.drew k (.slice pa p.length pc) g c d) := ⟨_, _, hr0.on (Below.refl _ _).drew⟩
  have hai : (a : Int) < 8 := by omega
  clear hr0 HL
  go_enter Tryz.func64, Tryz.ntmps64
  go_wp2_with fail
  rw [← hW]
  clear hW
  refine wp_region_held_drew (S := fun w' => w'.cell? ⟨k, 2, none⟩ = some (.slice (some ⟨g, 0, none⟩) 8 c) ∧ w'.cell? ⟨w.heap.size, 1, none⟩ = some (.int .i64 a)) (by kernel_rfl) (HS.out _ _ HD0.out) (fun hHeld => ?_)
  refine wpAnyH_take (i := 0) (v := ?_) rfl (by kernel_rfl) (by kernel_rfl) (by kernel_rfl) (fun _ _ _ h => h) (Or.inl ⟨by rfl, ?_⟩) hHeld ?_
  rotate_left 1
  · intro w' hSw
    obtain ⟨s0, s1⟩ := hSw
    go_simp
    try with_reducible rfl
  simp only [Act.put]
  refine wpAnyH_take (i := 1) (v := ?_) rfl (by kernel_rfl) (by kernel_rfl) (by kernel_rfl) (fun _ _ _ h => h) (Or.inl ⟨by rfl, ?_⟩) hHeld ?_
  rotate_left 1
  · intro w' hSw
    obtain ⟨s0, s1⟩ := hSw
    go_simp
    try with_reducible rfl
  simp only [Act.put]
  refine wpAnyH_take (i := 2) (v := ?_) rfl (by kernel_rfl) (by kernel_rfl) (by kernel_rfl) (fun _ _ _ h => h) (Or.inl ⟨by rfl, ?_⟩) hHeld ?_
  rotate_left 1
  · intro w' hSw
    obtain ⟨s0, s1⟩ := hSw
    go_simp
    try with_reducible rfl
  simp only [Act.put]
  refine wpAnyH_take (i := 3) (v := ?_) rfl (by kernel_rfl) (by kernel_rfl) (by kernel_rfl) (fun _ _ _ h => h) (Or.inl ⟨by rfl, ?_⟩) hHeld ?_
  rotate_left 1
  · intro w' hSw
    obtain ⟨s0, s1⟩ := hSw
    go_simp
    try with_reducible rfl
  simp only [Act.put]
  refine wpAnyH_take (i := 4) (v := ?_) rfl (by kernel_rfl) (by kernel_rfl) (by kernel_rfl) (fun _ _ _ h => h) (Or.inl ⟨by rfl, ?_⟩) hHeld ?_
  rotate_left 1
  · intro w' hSw
    obtain ⟨s0, s1⟩ := hSw
    go_simp
    try with_reducible rfl
  simp only [Act.put]
  refine wpAnyH_take (i := 5) (v := ?_) rfl (by kernel_rfl) (by kernel_rfl) (by kernel_rfl) (fun _ _ _ h => h) (Or.inl ⟨by rfl, ?_⟩) hHeld ?_
  rotate_left 1
  · intro w' hSw
    obtain ⟨s0, s1⟩ := hSw
    go_simp
    try with_reducible rfl
  simp only [Act.put]
  refine wpAnyH_take (i := 6) (v := ?_) rfl (by kernel_rfl) (by kernel_rfl) (by kernel_rfl) (fun _ _ _ h => h) (Or.inl ⟨by rfl, ?_⟩) hHeld ?_
  rotate_left 1
  · intro w' hSw
    obtain ⟨s0, s1⟩ := hSw
    go_simp
    try with_reducible rfl
  simp only [Act.put]
  refine wpAnyH_take (i := 7) (v := ?_) rfl (by kernel_rfl) (by kernel_rfl) (by kernel_rfl) (fun _ _ _ h => h) (Or.inl ⟨by rfl, ?_⟩) hHeld ?_
  rotate_left 1
  · intro w' hSw
    obtain ⟨s0, s1⟩ := hSw
    go_simp
    try with_reducible rfl
  simp only [Act.put]
  refine wpAnyH_ready (rs := [8]) (by kernel_rfl) (by simp) ?_
  refine AllReadyH.cons rfl (fun K hK => ?_) AllReadyH.nil
  go_simp
  refine (take_L u W (w.heap.size :: fs) _ k _ g c d HD0.out HOK.out.2.2).mono ?_
  rintro e w1 ⟨rfl, hd⟩
  have HD1 : Hid (DeskL u W (w.heap.size :: fs) w1 k (.slice pa p.length pc) g c d.take) := hd
  clear hd
  dsimp only
  refine hK.out _ _ (HS.out _ _ HD1.out) (fun hHeld => ?_)
  clear hK K
  refine wpAnyH_take (i := 9) (v := ?_) rfl (by kernel_rfl) (by kernel_rfl) (by kernel_rfl) (fun _ _ _ h => h) (Or.inl ⟨by rfl, ?_⟩) hHeld ?_
  rotate_left 1
  · intro w' hSw
    obtain ⟨s0, s1⟩ := hSw
    go_simp
    try with_reducible rfl
  simp only [Act.put]
  refine wpAnyH_ready (rs := [10]) (by kernel_rfl) (by simp) ?_
  refine AllReadyH.cons rfl (fun K hK => ?_) AllReadyH.nil
  obtain ⟨sv1, ev1, hr1⟩ := HD1.out
  obtain ⟨x0, y0⟩ := hr1.local ha
  have HD2 : Hid (DeskL u W (w.heap.size :: fs) (w1.setCell ⟨g, a, none⟩ (.int .i64 d.top)) k (.slice pa p.length pc) g c (d.sto a)) := ⟨sv1, ev1, hr1.stored ha d.top⟩
  go_simp
  refine hK.out _ _ (HS.out _ _ HD2.out) (fun hHeld => ?_)
  clear hK K x0 y0 hr1
  refine wpAnyH_done (by kernel_rfl) ?_ _
  have hd := HD2.out.at
  have HE : Hid (DeskAt u W0 fs (w1.setCell ⟨g, a, none⟩ (.int .i64 d.top)) k (.slice pa p.length pc) (doD p gives (3, a, b) d)) := by
    show DeskAt _ _ _ _ _ _ _
    rw [HDO.out]
    exact HH.out.back (gs := [w.heap.size]) HWB.out hd
  clear hd
  go_wp2
  go_end0
  exact ⟨⟨_, rfl⟩, HE.out⟩

set_option maxRecDepth 100000 in
set_option maxHeartbeats 4000000 in
theorem do_16 (B : Nat) (p : Prg) (hok' : okP p = true) (hsp : SmallP p) (u W0 : World) (fs : List Nat) (w : World) (k : Nat) (pa : Option Addr) (pc : Nat) (hp : SK front B u (.slice pa p.length pc) p) (d : Dsk) (hok : d.ok p) (h : DeskAt u W0 fs w k (.slice pa p.length pc) d) (a b : Nat) (gives : Int) :
    Calls Tryz.prog 64 #[.pointer (some ⟨k, 0, none⟩), .agg #[.int .i64 16, .int .i64 a, .int .i64 b], .int .i64 gives] w fun e w' => (∃ v, e = .returned v) ∧ DeskAt u W0 fs w' k (.slice pa p.length pc) (doD p gives (16, a, b) d) := by
  have HP : Hid (SK front B u (.slice pa p.length pc) p) := hp
  have HSP : Hid (SmallP p) := hsp
  have hp0 : 0 < p.length := (okP_len hok').1
  have h6 : p.length ≤ 6 := (okP_len hok').2
  have HSU : Hid (SupOk p p.length) := (ok_sup hok').sup
  have HH : Hid (DeskAt u W0 fs w k (.slice pa p.length pc) d) := h
  have HOK : Hid (d.ok p) := hok
  obtain ⟨W, hW⟩ : ∃ W, W = w.alloc (.cells #[.int .i64 16, .int .i64 a, .int .i64 b] 39) := ⟨_, rfl⟩
  have hwW : Below w.heap.size w W := by rw [hW]; exact (Below.refl _ _).alloc (Nat.le_refl _) _
  have HF : Hid (DeskAt u W (w.heap.size :: fs) W k (.slice pa p.length pc) d) := by rw [hW]; exact h.fresh _
  have CI : Hid (Cells W w.heap.size [.int .i64 16, .int .i64 a, .int .i64 b]) := by rw [hW]; exact Cells.new w _ rfl _ _
  have HZ : Hid (W.heap.size = w.heap.size + 1) := by rw [hW]; show _ = _; simp
  have HDO : Hid (doD p gives (16, a, b) d = (d.when (fldF p a b).isSome).fits p [(a : Int), fieldV p a b]) := by show _ = _; simp [doD]
  have HWB : Hid (Below w.heap.size w W) := hwW
  have HFV : Hid (-3 ≤ fieldV p a b) := fieldV_bd hok' _ _
  clear h hp hsp hok hok' hwW
  have HS : Hid (∀ w' d2, DeskAt u W (w.heap.size :: fs) w' k (.slice pa p.length pc) d2 → w'.cell? ⟨w.heap.size, 1, none⟩ = some (.int .i64 a) ∧ w'.cell? ⟨w.heap.size, 2, none⟩ = some (.int .i64 b)) := by
    show ∀ w' d2, _
    intro w' d2 h'
    exact ⟨((h'.kept (by simp) CI.out).g1).1, ((h'.kept (by simp) CI.out).g2).1⟩
  have HD0 : Hid (DeskAt u W (w.heap.size :: fs) W.drew k (.slice pa p.length pc) d) := HF.out.on (Below.refl _ _).drew
  go_enter Tryz.func64, Tryz.ntmps64
  go_wp2_with fail
  rw [← hW]
  clear hW
  refine wp_region_held_drew (S := fun w' => w'.cell? ⟨w.heap.size, 1, none⟩ = some (.int .i64 a) ∧ w'.cell? ⟨w.heap.size, 2, none⟩ = some (.int .i64 b)) (by kernel_rfl) (HS.out _ _ HD0.out) (fun hHeld => ?_)
  refine wpAnyH_take (i := 0) (v := ?_) rfl (by kernel_rfl) (by kernel_rfl) (by kernel_rfl) (fun _ _ _ h => h) (Or.inl ⟨by rfl, ?_⟩) hHeld ?_
  rotate_left 1
  · intro w' hSw
    obtain ⟨s0, s1⟩ := hSw
    go_simp
    try with_reducible rfl
  simp only [Act.put]
  refine wpAnyH_take (i := 1) (v := ?_) rfl (by kernel_rfl) (by kernel_rfl) (by kernel_rfl) (fun _ _ _ h => h) (Or.inl ⟨by rfl, ?_⟩) hHeld ?_
  rotate_left 1
  · intro w' hSw
    obtain ⟨s0, s1⟩ := hSw
    go_simp
    try with_reducible rfl
  simp only [Act.put]
  refine wpAnyH_take (i := 2) (v := ?_) rfl (by kernel_rfl) (by kernel_rfl) (by kernel_rfl) (fun _ _ _ h => h) (Or.inl ⟨by rfl, ?_⟩) hHeld ?_
  rotate_left 1
  · intro w' hSw
    obtain ⟨s0, s1⟩ := hSw
    go_simp
    try with_reducible rfl
  simp only [Act.put]
  refine wpAnyH_take (i := 3) (v := ?_) rfl (by kernel_rfl) (by kernel_rfl) (by kernel_rfl) (fun _ _ _ h => h) (Or.inl ⟨by rfl, ?_⟩) hHeld ?_
  rotate_left 1
  · intro w' hSw
    obtain ⟨s0, s1⟩ := hSw
    go_simp
    try with_reducible rfl
  simp only [Act.put]
  refine wpAnyH_take (i := 4) (v := ?_) rfl (by kernel_rfl) (by kernel_rfl) (by kernel_rfl) (fun _ _ _ h => h) (Or.inl ⟨by rfl, ?_⟩) hHeld ?_
  rotate_left 1
  · intro w' hSw
    obtain ⟨s0, s1⟩ := hSw
    go_simp
    try with_reducible rfl
  simp only [Act.put]
  refine wpAnyH_take (i := 5) (v := ?_) rfl (by kernel_rfl) (by kernel_rfl) (by kernel_rfl) (fun _ _ _ h => h) (Or.inl ⟨by rfl, ?_⟩) hHeld ?_
  rotate_left 1
  · intro w' hSw
    obtain ⟨s0, s1⟩ := hSw
    go_simp
    try with_reducible rfl
  simp only [Act.put]
  refine wpAnyH_take (i := 6) (v := ?_) rfl (by kernel_rfl) (by kernel_rfl) (by kernel_rfl) (fun _ _ _ h => h) (Or.inl ⟨by rfl, ?_⟩) hHeld ?_
  rotate_left 1
  · intro w' hSw
    obtain ⟨s0, s1⟩ := hSw
    go_simp
    try with_reducible rfl
  simp only [Act.put]
  refine wpAnyH_take (i := 7) (v := ?_) rfl (by kernel_rfl) (by kernel_rfl) (by kernel_rfl) (fun _ _ _ h => h) (Or.inl ⟨by rfl, ?_⟩) hHeld ?_
  rotate_left 1
  · intro w' hSw
    obtain ⟨s0, s1⟩ := hSw
    go_simp
    try with_reducible rfl
  simp only [Act.put]
  refine wpAnyH_ready (rs := [8]) (by kernel_rfl) (by simp) ?_
  refine AllReadyH.cons rfl (fun K hK => ?_) AllReadyH.nil
  go_simp
  refine (field_at B p HSP.out u W (w.heap.size :: fs) _ k pa pc HP.out d HD0.out a b).mono ?_
  rintro e w1 ⟨rfl, hd⟩
  have HD1 : Hid (DeskAt u W (w.heap.size :: fs) w1 k (.slice pa p.length pc) (d.when (fldF p a b).isSome)) := hd
  clear hd
  dsimp only
  refine hK.out _ _ (HS.out _ _ HD1.out) (fun hHeld => ?_)
  clear hK K
  generalize fieldV p a b = x at *
  refine wpAnyH_ready (rs := [9]) (by kernel_rfl) (by simp) ?_
  refine AllReadyH.cons rfl (fun K hK => ?_) AllReadyH.nil
  have HD2 : Hid (DeskAt u (w1.alloc (.cells #[.int .i64 a, .int .i64 x] 2)) (w1.heap.size :: w.heap.size :: fs) (w1.alloc (.cells #[.int .i64 a, .int .i64 x] 2)) k (.slice pa p.length pc) (d.when (fldF p a b).isSome)) := HD1.out.fresh _
  go_simp
  refine hK.out _ _ (HS.out _ _ (HD1.out.on ((Below.refl _ _).alloc (Nat.le_refl _) _))) (fun hHeld => ?_)
  clear hK K
  refine wpAnyH_ready (rs := [10]) (by kernel_rfl) (by simp) ?_
  refine AllReadyH.cons rfl (fun K hK => ?_) AllReadyH.nil
  go_simp
  refine (fits_at B p hp0 h6 HSU.out u _ (w1.heap.size :: w.heap.size :: fs) _ k pa pc HP.out _ (Dsk.ok_when HOK.out _) HD2.out _ _ [(a : Int), x] (by simp) (by have := HFV.out; simp; omega) (irow_new w1 [(a : Int), x]) (by simp) (by simp)).mono ?_
  rintro e w2 ⟨⟨v, rfl⟩, hd⟩
  have HD3 : Hid (DeskAt u W (w.heap.size :: fs) w2 k (.slice pa p.length pc) ((d.when (fldF p a b).isSome).fits p [(a : Int), x])) := HD1.out.back (gs := [w1.heap.size]) ((Below.refl _ _).alloc (Nat.le_refl _) _) hd
  clear hd
  dsimp only
  refine hK.out _ _ (HS.out _ _ HD3.out) (fun hHeld => ?_)
  clear hK K HD2
  refine wpAnyH_done (by kernel_rfl) ?_ _
  have hd := HD3.out
  have HE : Hid (DeskAt u W0 fs w2 k (.slice pa p.length pc) (doD p gives (16, a, b) d)) := by
    show DeskAt _ _ _ _ _ _ _
    rw [HDO.out]
    exact HH.out.back (gs := [w.heap.size]) HWB.out hd
  clear hd
  go_wp2
  go_end0
  exact ⟨⟨_, rfl⟩, HE.out⟩
end Pg
end Go.Proofs.YtfdlljdljefkfaaGreatDoor
