/- Contracts of the desk's doing of a step (Dk7). -/
import Derived.Test.YtfdlljdljefkfaaGreatDoorJDk5
import Derived.Test.YtfdlljdljefkfaaGreatDoorJDk6
namespace Go.Proofs.YtfdlljdljefkfaaGreatDoor
namespace Pg
open Go.ChangeShapes Go.WideShapes Go.ChangeAt Go.RowKit St

set_option maxRecDepth 100000 in
set_option maxHeartbeats 4000000 in
theorem do_12 (B : Nat) (p : Prg) (hok' : okP p = true) (hsp : SmallP p) (u W0 : World) (fs : List Nat) (w : World) (k : Nat) (pa : Option Addr) (pc : Nat) (hp : SK front B u (.slice pa p.length pc) p) (d : Dsk) (hok : d.ok p) (h : DeskAt u W0 fs w k (.slice pa p.length pc) d) (a b gives : Int) :
    Calls Tryz.prog 64 #[.pointer (some ⟨k, 0, none⟩), .agg #[.int .i64 12, .int .i64 a, .int .i64 b], .int .i64 gives] w fun e w' => (∃ v, e = .returned v) ∧ DeskAt u W0 fs w' k (.slice pa p.length pc) (doD p gives (12, a, b) d) := by
  have HP : Hid (SK front B u (.slice pa p.length pc) p) := hp
  have HSP : Hid (SmallP p) := hsp
  have hp0 : 0 < p.length := (okP_len hok').1
  have h6 : p.length ≤ 6 := (okP_len hok').2
  have HSU : Hid (SupOk p p.length) := (ok_sup hok').sup
  have HH : Hid (DeskAt u W0 fs w k (.slice pa p.length pc) d) := h
  have HOK : Hid (d.ok p) := hok
  obtain ⟨W, hW⟩ : ∃ W, W = w.alloc (.cells #[.int .i64 12, .int .i64 a, .int .i64 b] 39) := ⟨_, rfl⟩
  have hwW : Below w.heap.size w W := by rw [hW]; exact (Below.refl _ _).alloc (Nat.le_refl _) _
  have HF : Hid (DeskAt u W (w.heap.size :: fs) W k (.slice pa p.length pc) d) := by rw [hW]; exact h.fresh _
  have CI : Hid (Cells W w.heap.size [.int .i64 12, .int .i64 a, .int .i64 b]) := by rw [hW]; exact Cells.new w _ rfl _ _
  have HZ : Hid (W.heap.size = w.heap.size + 1) := by rw [hW]; show _ = _; simp
  have HDO : Hid (doD p gives (12, a, b) d = d.fits p [-1]) := by show _ = _; simp [doD]
  have HWB : Hid (Below w.heap.size w W) := hwW
  clear h hp hsp hok hok' hwW
  go_enter Tryz.func64, Tryz.ntmps64
  go_wp2_with fail
  rw [← hW]
  clear hW
  have HD1 : Hid (DeskAt u (W.alloc (.cells #[.int .i64 (-1)] 2)) ((w.heap.size + 1) :: w.heap.size :: fs) (W.alloc (.cells #[.int .i64 (-1)] 2)) k (.slice pa p.length pc) d) := by rw [← HZ.out]; exact HF.out.fresh _
  have HB1 : Hid (Below w.heap.size w (W.alloc (.cells #[.int .i64 (-1)] 2))) := HWB.out.alloc HWB.out.size _
  refine (fits_at B p hp0 h6 HSU.out u _ ((w.heap.size + 1) :: w.heap.size :: fs) _ k pa pc HP.out d HOK.out HD1.out _ _ [-1] (by simp) (by simp) (irow_newAt W _ [-1] HZ.out.symm) (by have := HZ.out; simp; omega) (by simp)).mono ?_
  rintro e w1 ⟨⟨v, rfl⟩, hd⟩
  have HE : Hid (DeskAt u W0 fs w1 k (.slice pa p.length pc) (doD p gives (12, a, b) d)) := by
    show DeskAt _ _ _ _ _ _ _
    rw [HDO.out]
    exact HH.out.back (gs := [w.heap.size + 1, w.heap.size]) HB1.out hd
  clear hd
  go_wp2
  go_end0
  exact ⟨⟨_, rfl⟩, HE.out⟩

set_option maxRecDepth 100000 in
set_option maxHeartbeats 4000000 in
theorem do_19 (B : Nat) (p : Prg) (hok' : okP p = true) (hsp : SmallP p) (u W0 : World) (fs : List Nat) (w : World) (k : Nat) (pa : Option Addr) (pc : Nat) (hp : SK front B u (.slice pa p.length pc) p) (d : Dsk) (hok : d.ok p) (h : DeskAt u W0 fs w k (.slice pa p.length pc) d) (a b gives : Int) :
    Calls Tryz.prog 64 #[.pointer (some ⟨k, 0, none⟩), .agg #[.int .i64 19, .int .i64 a, .int .i64 b], .int .i64 gives] w fun e w' => (∃ v, e = .returned v) ∧ DeskAt u W0 fs w' k (.slice pa p.length pc) (doD p gives (19, a, b) d) := by
  have HP : Hid (SK front B u (.slice pa p.length pc) p) := hp
  have HSP : Hid (SmallP p) := hsp
  have hp0 : 0 < p.length := (okP_len hok').1
  have h6 : p.length ≤ 6 := (okP_len hok').2
  have HSU : Hid (SupOk p p.length) := (ok_sup hok').sup
  have HH : Hid (DeskAt u W0 fs w k (.slice pa p.length pc) d) := h
  have HOK : Hid (d.ok p) := hok
  obtain ⟨W, hW⟩ : ∃ W, W = w.alloc (.cells #[.int .i64 19, .int .i64 a, .int .i64 b] 39) := ⟨_, rfl⟩
  have hwW : Below w.heap.size w W := by rw [hW]; exact (Below.refl _ _).alloc (Nat.le_refl _) _
  have HF : Hid (DeskAt u W (w.heap.size :: fs) W k (.slice pa p.length pc) d) := by rw [hW]; exact h.fresh _
  have CI : Hid (Cells W w.heap.size [.int .i64 19, .int .i64 a, .int .i64 b]) := by rw [hW]; exact Cells.new w _ rfl _ _
  have HZ : Hid (W.heap.size = w.heap.size + 1) := by rw [hW]; show _ = _; simp
  have HDO : Hid (doD p gives (19, a, b) d = d.fits p [-1]) := by show _ = _; simp [doD]
  have HWB : Hid (Below w.heap.size w W) := hwW
  clear h hp hsp hok hok' hwW
  go_enter Tryz.func64, Tryz.ntmps64
  go_wp2_with fail
  rw [← hW]
  clear hW
  have HD1 : Hid (DeskAt u (W.alloc (.cells #[.int .i64 (-1)] 2)) ((w.heap.size + 1) :: w.heap.size :: fs) (W.alloc (.cells #[.int .i64 (-1)] 2)) k (.slice pa p.length pc) d) := by rw [← HZ.out]; exact HF.out.fresh _
  have HB1 : Hid (Below w.heap.size w (W.alloc (.cells #[.int .i64 (-1)] 2))) := HWB.out.alloc HWB.out.size _
  refine (fits_at B p hp0 h6 HSU.out u _ ((w.heap.size + 1) :: w.heap.size :: fs) _ k pa pc HP.out d HOK.out HD1.out _ _ [-1] (by simp) (by simp) (irow_newAt W _ [-1] HZ.out.symm) (by have := HZ.out; simp; omega) (by simp)).mono ?_
  rintro e w1 ⟨⟨v, rfl⟩, hd⟩
  have HE : Hid (DeskAt u W0 fs w1 k (.slice pa p.length pc) (doD p gives (19, a, b) d)) := by
    show DeskAt _ _ _ _ _ _ _
    rw [HDO.out]
    exact HH.out.back (gs := [w.heap.size + 1, w.heap.size]) HB1.out hd
  clear hd
  go_wp2
  go_end0
  exact ⟨⟨_, rfl⟩, HE.out⟩

set_option maxRecDepth 100000 in
set_option maxHeartbeats 4000000 in
theorem do_20 (B : Nat) (p : Prg) (hok' : okP p = true) (hsp : SmallP p) (u W0 : World) (fs : List Nat) (w : World) (k : Nat) (pa : Option Addr) (pc : Nat) (hp : SK front B u (.slice pa p.length pc) p) (d : Dsk) (hok : d.ok p) (h : DeskAt u W0 fs w k (.slice pa p.length pc) d) (a b gives : Int) (hg : -3 ≤ gives) :
    Calls Tryz.prog 64 #[.pointer (some ⟨k, 0, none⟩), .agg #[.int .i64 20, .int .i64 a, .int .i64 b], .int .i64 gives] w fun e w' => (∃ v, e = .returned v) ∧ DeskAt u W0 fs w' k (.slice pa p.length pc) (doD p gives (20, a, b) d) := by
  have HP : Hid (SK front B u (.slice pa p.length pc) p) := hp
  have HSP : Hid (SmallP p) := hsp
  have hp0 : 0 < p.length := (okP_len hok').1
  have h6 : p.length ≤ 6 := (okP_len hok').2
  have HSU : Hid (SupOk p p.length) := (ok_sup hok').sup
  have HH : Hid (DeskAt u W0 fs w k (.slice pa p.length pc) d) := h
  have HOK : Hid (d.ok p) := hok
  obtain ⟨W, hW⟩ : ∃ W, W = w.alloc (.cells #[.int .i64 20, .int .i64 a, .int .i64 b] 39) := ⟨_, rfl⟩
  have hwW : Below w.heap.size w W := by rw [hW]; exact (Below.refl _ _).alloc (Nat.le_refl _) _
  have HF : Hid (DeskAt u W (w.heap.size :: fs) W k (.slice pa p.length pc) d) := by rw [hW]; exact h.fresh _
  have CI : Hid (Cells W w.heap.size [.int .i64 20, .int .i64 a, .int .i64 b]) := by rw [hW]; exact Cells.new w _ rfl _ _
  have HZ : Hid (W.heap.size = w.heap.size + 1) := by rw [hW]; show _ = _; simp
  have HDO : Hid (doD p gives (20, a, b) d = d.fits p [gives]) := by show _ = _; simp [doD]
  have HWB : Hid (Below w.heap.size w W) := hwW
  clear h hp hsp hok hok' hwW
  go_enter Tryz.func64, Tryz.ntmps64
  go_wp2_with fail
  rw [← hW]
  clear hW
  have HD1 : Hid (DeskAt u (W.alloc (.cells #[.int .i64 gives] 2)) ((w.heap.size + 1) :: w.heap.size :: fs) (W.alloc (.cells #[.int .i64 gives] 2)) k (.slice pa p.length pc) d) := by rw [← HZ.out]; exact HF.out.fresh _
  have HB1 : Hid (Below w.heap.size w (W.alloc (.cells #[.int .i64 gives] 2))) := HWB.out.alloc HWB.out.size _
  refine (fits_at B p hp0 h6 HSU.out u _ ((w.heap.size + 1) :: w.heap.size :: fs) _ k pa pc HP.out d HOK.out HD1.out _ _ [gives] (by simp) (by simp; omega) (irow_newAt W _ [gives] HZ.out.symm) (by have := HZ.out; simp; omega) (by simp)).mono ?_
  rintro e w1 ⟨⟨v, rfl⟩, hd⟩
  have HE : Hid (DeskAt u W0 fs w1 k (.slice pa p.length pc) (doD p gives (20, a, b) d)) := by
    show DeskAt _ _ _ _ _ _ _
    rw [HDO.out]
    exact HH.out.back (gs := [w.heap.size + 1, w.heap.size]) HB1.out hd
  clear hd
  go_wp2
  go_end0
  exact ⟨⟨_, rfl⟩, HE.out⟩

set_option maxRecDepth 100000 in
set_option maxHeartbeats 4000000 in
theorem do_4 (B : Nat) (p : Prg) (hok' : okP p = true) (hsp : SmallP p) (u W0 : World) (fs : List Nat) (w : World) (k : Nat) (pa : Option Addr) (pc : Nat) (hp : SK front B u (.slice pa p.length pc) p) (d : Dsk) (hok : d.ok p) (h : DeskAt u W0 fs w k (.slice pa p.length pc) d) (a b gives : Int) :
    Calls Tryz.prog 64 #[.pointer (some ⟨k, 0, none⟩), .agg #[.int .i64 4, .int .i64 a, .int .i64 b], .int .i64 gives] w fun e w' => (∃ v, e = .returned v) ∧ DeskAt u W0 fs w' k (.slice pa p.length pc) (doD p gives (4, a, b) d) := by
  have HP : Hid (SK front B u (.slice pa p.length pc) p) := hp
  have HSP : Hid (SmallP p) := hsp
  have hp0 : 0 < p.length := (okP_len hok').1
  have h6 : p.length ≤ 6 := (okP_len hok').2
  have HSU : Hid (SupOk p p.length) := (ok_sup hok').sup
  have HH : Hid (DeskAt u W0 fs w k (.slice pa p.length pc) d) := h
  have HOK : Hid (d.ok p) := hok
  obtain ⟨W, hW⟩ : ∃ W, W = w.alloc (.cells #[.int .i64 4, .int .i64 a, .int .i64 b] 39) := ⟨_, rfl⟩
  have hwW : Below w.heap.size w W := by rw [hW]; exact (Below.refl _ _).alloc (Nat.le_refl _) _
  have HF : Hid (DeskAt u W (w.heap.size :: fs) W k (.slice pa p.length pc) d) := by rw [hW]; exact h.fresh _
  have CI : Hid (Cells W w.heap.size [.int .i64 4, .int .i64 a, .int .i64 b]) := by rw [hW]; exact Cells.new w _ rfl _ _
  have HZ : Hid (W.heap.size = w.heap.size + 1) := by rw [hW]; show _ = _; simp
  have HDO : Hid (doD p gives (4, a, b) d = (d.fits p [-1, -1]).put [-1]) := by show _ = _; simp [doD]
  have HWB : Hid (Below w.heap.size w W) := hwW
  clear h hp hsp hok hok' hwW
  go_enter Tryz.func64, Tryz.ntmps64
  go_wp2_with fail
  rw [← hW]
  clear hW
  have HD1 : Hid (DeskAt u (W.alloc (.cells #[.int .i64 (-1), .int .i64 (-1)] 2)) ((w.heap.size + 1) :: w.heap.size :: fs) (W.alloc (.cells #[.int .i64 (-1), .int .i64 (-1)] 2)) k (.slice pa p.length pc) d) := by rw [← HZ.out]; exact HF.out.fresh _
  have HB1 : Hid (Below w.heap.size w (W.alloc (.cells #[.int .i64 (-1), .int .i64 (-1)] 2))) := HWB.out.alloc HWB.out.size _
  refine (fits_at B p hp0 h6 HSU.out u _ ((w.heap.size + 1) :: w.heap.size :: fs) _ k pa pc HP.out d HOK.out HD1.out _ _ [-1, -1] (by simp) (by simp) (irow_newAt W _ [-1, -1] HZ.out.symm) (by have := HZ.out; simp; omega) (by simp)).mono ?_
  rintro e w1 ⟨⟨v, rfl⟩, hd⟩
  have HD2 : Hid (DeskAt u (W.alloc (.cells #[.int .i64 (-1), .int .i64 (-1)] 2)) ((w.heap.size + 1) :: w.heap.size :: fs) w1 k (.slice pa p.length pc) (d.fits p [-1, -1])) := hd
  have hl1 : (d.fits p [-1, -1]).st.length ≤ 1000 := (ok_fold HOK.out _).2.2
  clear hd HD1
  go_wp2_with fail
  refine (put_at u _ ((w.heap.size + 1) :: w.heap.size :: fs) _ k _ (d.fits p [-1, -1]) (HD2.out.on ((Below.refl _ _).alloc (Nat.le_refl _) _)) hl1 _ _ [-1] (by decide) (irow_new w1 [-1])).mono ?_
  rintro e w2 ⟨⟨v, rfl⟩, hd⟩
  have HE : Hid (DeskAt u W0 fs w2 k (.slice pa p.length pc) (doD p gives (4, a, b) d)) := by
    show DeskAt _ _ _ _ _ _ _
    rw [HDO.out]
    exact HH.out.back (gs := [w.heap.size + 1, w.heap.size]) HB1.out hd
  clear hd
  go_wp2
  go_end0
  exact ⟨⟨_, rfl⟩, HE.out⟩

set_option maxRecDepth 100000 in
set_option maxHeartbeats 4000000 in
theorem do_5 (B : Nat) (p : Prg) (hok' : okP p = true) (hsp : SmallP p) (u W0 : World) (fs : List Nat) (w : World) (k : Nat) (pa : Option Addr) (pc : Nat) (hp : SK front B u (.slice pa p.length pc) p) (d : Dsk) (hok : d.ok p) (h : DeskAt u W0 fs w k (.slice pa p.length pc) d) (a b gives : Int) :
    Calls Tryz.prog 64 #[.pointer (some ⟨k, 0, none⟩), .agg #[.int .i64 5, .int .i64 a, .int .i64 b], .int .i64 gives] w fun e w' => (∃ v, e = .returned v) ∧ DeskAt u W0 fs w' k (.slice pa p.length pc) (doD p gives (5, a, b) d) := by
  have HP : Hid (SK front B u (.slice pa p.length pc) p) := hp
  have HSP : Hid (SmallP p) := hsp
  have hp0 : 0 < p.length := (okP_len hok').1
  have h6 : p.length ≤ 6 := (okP_len hok').2
  have HSU : Hid (SupOk p p.length) := (ok_sup hok').sup
  have HH : Hid (DeskAt u W0 fs w k (.slice pa p.length pc) d) := h
  have HOK : Hid (d.ok p) := hok
  obtain ⟨W, hW⟩ : ∃ W, W = w.alloc (.cells #[.int .i64 5, .int .i64 a, .int .i64 b] 39) := ⟨_, rfl⟩
  have hwW : Below w.heap.size w W := by rw [hW]; exact (Below.refl _ _).alloc (Nat.le_refl _) _
  have HF : Hid (DeskAt u W (w.heap.size :: fs) W k (.slice pa p.length pc) d) := by rw [hW]; exact h.fresh _
  have CI : Hid (Cells W w.heap.size [.int .i64 5, .int .i64 a, .int .i64 b]) := by rw [hW]; exact Cells.new w _ rfl _ _
  have HZ : Hid (W.heap.size = w.heap.size + 1) := by rw [hW]; show _ = _; simp
  have HDO : Hid (doD p gives (5, a, b) d = (d.fits p [-1, -1]).put [-1]) := by show _ = _; simp [doD]
  have HWB : Hid (Below w.heap.size w W) := hwW
  clear h hp hsp hok hok' hwW
  go_enter Tryz.func64, Tryz.ntmps64
  go_wp2_with fail
  rw [← hW]
  clear hW
  have HD1 : Hid (DeskAt u (W.alloc (.cells #[.int .i64 (-1), .int .i64 (-1)] 2)) ((w.heap.size + 1) :: w.heap.size :: fs) (W.alloc (.cells #[.int .i64 (-1), .int .i64 (-1)] 2)) k (.slice pa p.length pc) d) := by rw [← HZ.out]; exact HF.out.fresh _
  have HB1 : Hid (Below w.heap.size w (W.alloc (.cells #[.int .i64 (-1), .int .i64 (-1)] 2))) := HWB.out.alloc HWB.out.size _
  refine (fits_at B p hp0 h6 HSU.out u _ ((w.heap.size + 1) :: w.heap.size :: fs) _ k pa pc HP.out d HOK.out HD1.out _ _ [-1, -1] (by simp) (by simp) (irow_newAt W _ [-1, -1] HZ.out.symm) (by have := HZ.out; simp; omega) (by simp)).mono ?_
  rintro e w1 ⟨⟨v, rfl⟩, hd⟩
  have HD2 : Hid (DeskAt u (W.alloc (.cells #[.int .i64 (-1), .int .i64 (-1)] 2)) ((w.heap.size + 1) :: w.heap.size :: fs) w1 k (.slice pa p.length pc) (d.fits p [-1, -1])) := hd
  have hl1 : (d.fits p [-1, -1]).st.length ≤ 1000 := (ok_fold HOK.out _).2.2
  clear hd HD1
  go_wp2_with fail
  refine (put_at u _ ((w.heap.size + 1) :: w.heap.size :: fs) _ k _ (d.fits p [-1, -1]) (HD2.out.on ((Below.refl _ _).alloc (Nat.le_refl _) _)) hl1 _ _ [-1] (by decide) (irow_new w1 [-1])).mono ?_
  rintro e w2 ⟨⟨v, rfl⟩, hd⟩
  have HE : Hid (DeskAt u W0 fs w2 k (.slice pa p.length pc) (doD p gives (5, a, b) d)) := by
    show DeskAt _ _ _ _ _ _ _
    rw [HDO.out]
    exact HH.out.back (gs := [w.heap.size + 1, w.heap.size]) HB1.out hd
  clear hd
  go_wp2
  go_end0
  exact ⟨⟨_, rfl⟩, HE.out⟩

set_option maxRecDepth 100000 in
set_option maxHeartbeats 4000000 in
theorem do_6 (B : Nat) (p : Prg) (hok' : okP p = true) (hsp : SmallP p) (u W0 : World) (fs : List Nat) (w : World) (k : Nat) (pa : Option Addr) (pc : Nat) (hp : SK front B u (.slice pa p.length pc) p) (d : Dsk) (hok : d.ok p) (h : DeskAt u W0 fs w k (.slice pa p.length pc) d) (a b gives : Int) :
    Calls Tryz.prog 64 #[.pointer (some ⟨k, 0, none⟩), .agg #[.int .i64 6, .int .i64 a, .int .i64 b], .int .i64 gives] w fun e w' => (∃ v, e = .returned v) ∧ DeskAt u W0 fs w' k (.slice pa p.length pc) (doD p gives (6, a, b) d) := by
  have HP : Hid (SK front B u (.slice pa p.length pc) p) := hp
  have HSP : Hid (SmallP p) := hsp
  have hp0 : 0 < p.length := (okP_len hok').1
  have h6 : p.length ≤ 6 := (okP_len hok').2
  have HSU : Hid (SupOk p p.length) := (ok_sup hok').sup
  have HH : Hid (DeskAt u W0 fs w k (.slice pa p.length pc) d) := h
  have HOK : Hid (d.ok p) := hok
  obtain ⟨W, hW⟩ : ∃ W, W = w.alloc (.cells #[.int .i64 6, .int .i64 a, .int .i64 b] 39) := ⟨_, rfl⟩
  have hwW : Below w.heap.size w W := by rw [hW]; exact (Below.refl _ _).alloc (Nat.le_refl _) _
  have HF : Hid (DeskAt u W (w.heap.size :: fs) W k (.slice pa p.length pc) d) := by rw [hW]; exact h.fresh _
  have CI : Hid (Cells W w.heap.size [.int .i64 6, .int .i64 a, .int .i64 b]) := by rw [hW]; exact Cells.new w _ rfl _ _
  have HZ : Hid (W.heap.size = w.heap.size + 1) := by rw [hW]; show _ = _; simp
  have HDO : Hid (doD p gives (6, a, b) d = (d.fits p [-1, -1]).put [-1]) := by show _ = _; simp [doD]
  have HWB : Hid (Below w.heap.size w W) := hwW
  clear h hp hsp hok hok' hwW
  go_enter Tryz.func64, Tryz.ntmps64
  go_wp2_with fail
  rw [← hW]
  clear hW
  have HD1 : Hid (DeskAt u (W.alloc (.cells #[.int .i64 (-1), .int .i64 (-1)] 2)) ((w.heap.size + 1) :: w.heap.size :: fs) (W.alloc (.cells #[.int .i64 (-1), .int .i64 (-1)] 2)) k (.slice pa p.length pc) d) := by rw [← HZ.out]; exact HF.out.fresh _
  have HB1 : Hid (Below w.heap.size w (W.alloc (.cells #[.int .i64 (-1), .int .i64 (-1)] 2))) := HWB.out.alloc HWB.out.size _
  refine (fits_at B p hp0 h6 HSU.out u _ ((w.heap.size + 1) :: w.heap.size :: fs) _ k pa pc HP.out d HOK.out HD1.out _ _ [-1, -1] (by simp) (by simp) (irow_newAt W _ [-1, -1] HZ.out.symm) (by have := HZ.out; simp; omega) (by simp)).mono ?_
  rintro e w1 ⟨⟨v, rfl⟩, hd⟩
  have HD2 : Hid (DeskAt u (W.alloc (.cells #[.int .i64 (-1), .int .i64 (-1)] 2)) ((w.heap.size + 1) :: w.heap.size :: fs) w1 k (.slice pa p.length pc) (d.fits p [-1, -1])) := hd
  have hl1 : (d.fits p [-1, -1]).st.length ≤ 1000 := (ok_fold HOK.out _).2.2
  clear hd HD1
  go_wp2_with fail
  refine (put_at u _ ((w.heap.size + 1) :: w.heap.size :: fs) _ k _ (d.fits p [-1, -1]) (HD2.out.on ((Below.refl _ _).alloc (Nat.le_refl _) _)) hl1 _ _ [-1] (by decide) (irow_new w1 [-1])).mono ?_
  rintro e w2 ⟨⟨v, rfl⟩, hd⟩
  have HE : Hid (DeskAt u W0 fs w2 k (.slice pa p.length pc) (doD p gives (6, a, b) d)) := by
    show DeskAt _ _ _ _ _ _ _
    rw [HDO.out]
    exact HH.out.back (gs := [w.heap.size + 1, w.heap.size]) HB1.out hd
  clear hd
  go_wp2
  go_end0
  exact ⟨⟨_, rfl⟩, HE.out⟩

set_option maxRecDepth 100000 in
set_option maxHeartbeats 4000000 in
theorem do_7 (B : Nat) (p : Prg) (hok' : okP p = true) (hsp : SmallP p) (u W0 : World) (fs : List Nat) (w : World) (k : Nat) (pa : Option Addr) (pc : Nat) (hp : SK front B u (.slice pa p.length pc) p) (d : Dsk) (hok : d.ok p) (h : DeskAt u W0 fs w k (.slice pa p.length pc) d) (a b gives : Int) :
    Calls Tryz.prog 64 #[.pointer (some ⟨k, 0, none⟩), .agg #[.int .i64 7, .int .i64 a, .int .i64 b], .int .i64 gives] w fun e w' => (∃ v, e = .returned v) ∧ DeskAt u W0 fs w' k (.slice pa p.length pc) (doD p gives (7, a, b) d) := by
  have HP : Hid (SK front B u (.slice pa p.length pc) p) := hp
  have HSP : Hid (SmallP p) := hsp
  have hp0 : 0 < p.length := (okP_len hok').1
  have h6 : p.length ≤ 6 := (okP_len hok').2
  have HSU : Hid (SupOk p p.length) := (ok_sup hok').sup
  have HH : Hid (DeskAt u W0 fs w k (.slice pa p.length pc) d) := h
  have HOK : Hid (d.ok p) := hok
  obtain ⟨W, hW⟩ : ∃ W, W = w.alloc (.cells #[.int .i64 7, .int .i64 a, .int .i64 b] 39) := ⟨_, rfl⟩
  have hwW : Below w.heap.size w W := by rw [hW]; exact (Below.refl _ _).alloc (Nat.le_refl _) _
  have HF : Hid (DeskAt u W (w.heap.size :: fs) W k (.slice pa p.length pc) d) := by rw [hW]; exact h.fresh _
  have CI : Hid (Cells W w.heap.size [.int .i64 7, .int .i64 a, .int .i64 b]) := by rw [hW]; exact Cells.new w _ rfl _ _
  have HZ : Hid (W.heap.size = w.heap.size + 1) := by rw [hW]; show _ = _; simp
  have HDO : Hid (doD p gives (7, a, b) d = (d.fits p [-1, -1]).put [-1]) := by show _ = _; simp [doD]
  have HWB : Hid (Below w.heap.size w W) := hwW
  clear h hp hsp hok hok' hwW
  go_enter Tryz.func64, Tryz.ntmps64
  go_wp2_with fail
  rw [← hW]
  clear hW
  have HD1 : Hid (DeskAt u (W.alloc (.cells #[.int .i64 (-1), .int .i64 (-1)] 2)) ((w.heap.size + 1) :: w.heap.size :: fs) (W.alloc (.cells #[.int .i64 (-1), .int .i64 (-1)] 2)) k (.slice pa p.length pc) d) := by rw [← HZ.out]; exact HF.out.fresh _
  have HB1 : Hid (Below w.heap.size w (W.alloc (.cells #[.int .i64 (-1), .int .i64 (-1)] 2))) := HWB.out.alloc HWB.out.size _
  refine (fits_at B p hp0 h6 HSU.out u _ ((w.heap.size + 1) :: w.heap.size :: fs) _ k pa pc HP.out d HOK.out HD1.out _ _ [-1, -1] (by simp) (by simp) (irow_newAt W _ [-1, -1] HZ.out.symm) (by have := HZ.out; simp; omega) (by simp)).mono ?_
  rintro e w1 ⟨⟨v, rfl⟩, hd⟩
  have HD2 : Hid (DeskAt u (W.alloc (.cells #[.int .i64 (-1), .int .i64 (-1)] 2)) ((w.heap.size + 1) :: w.heap.size :: fs) w1 k (.slice pa p.length pc) (d.fits p [-1, -1])) := hd
  have hl1 : (d.fits p [-1, -1]).st.length ≤ 1000 := (ok_fold HOK.out _).2.2
  clear hd HD1
  go_wp2_with fail
  refine (put_at u _ ((w.heap.size + 1) :: w.heap.size :: fs) _ k _ (d.fits p [-1, -1]) (HD2.out.on ((Below.refl _ _).alloc (Nat.le_refl _) _)) hl1 _ _ [-1] (by decide) (irow_new w1 [-1])).mono ?_
  rintro e w2 ⟨⟨v, rfl⟩, hd⟩
  have HE : Hid (DeskAt u W0 fs w2 k (.slice pa p.length pc) (doD p gives (7, a, b) d)) := by
    show DeskAt _ _ _ _ _ _ _
    rw [HDO.out]
    exact HH.out.back (gs := [w.heap.size + 1, w.heap.size]) HB1.out hd
  clear hd
  go_wp2
  go_end0
  exact ⟨⟨_, rfl⟩, HE.out⟩
end Pg
end Go.Proofs.YtfdlljdljefkfaaGreatDoor

/- Contracts of the desk's doing of a step (Dk8). -/
namespace Go.Proofs.YtfdlljdljefkfaaGreatDoor
namespace Pg
open Go.ChangeShapes Go.WideShapes Go.ChangeAt Go.RowKit St

set_option maxRecDepth 100000 in
set_option maxHeartbeats 4000000 in
theorem do_18 (B : Nat) (p : Prg) (hok' : okP p = true) (hsp : SmallP p) (u W0 : World) (fs : List Nat) (w : World) (k : Nat) (pa : Option Addr) (pc : Nat) (hp : SK front B u (.slice pa p.length pc) p) (d : Dsk) (hok : d.ok p) (h : DeskAt u W0 fs w k (.slice pa p.length pc) d) (a b gives : Int) :
    Calls Tryz.prog 64 #[.pointer (some ⟨k, 0, none⟩), .agg #[.int .i64 18, .int .i64 a, .int .i64 b], .int .i64 gives] w fun e w' => (∃ v, e = .returned v) ∧ DeskAt u W0 fs w' k (.slice pa p.length pc) (doD p gives (18, a, b) d) := by
  have HP : Hid (SK front B u (.slice pa p.length pc) p) := hp
  have HSP : Hid (SmallP p) := hsp
  have hp0 : 0 < p.length := (okP_len hok').1
  have h6 : p.length ≤ 6 := (okP_len hok').2
  have HSU : Hid (SupOk p p.length) := (ok_sup hok').sup
  have HH : Hid (DeskAt u W0 fs w k (.slice pa p.length pc) d) := h
  have HOK : Hid (d.ok p) := hok
  obtain ⟨W, hW⟩ : ∃ W, W = w.alloc (.cells #[.int .i64 18, .int .i64 a, .int .i64 b] 39) := ⟨_, rfl⟩
  have hwW : Below w.heap.size w W := by rw [hW]; exact (Below.refl _ _).alloc (Nat.le_refl _) _
  have HF : Hid (DeskAt u W (w.heap.size :: fs) W k (.slice pa p.length pc) d) := by rw [hW]; exact h.fresh _
  have CI : Hid (Cells W w.heap.size [.int .i64 18, .int .i64 a, .int .i64 b]) := by rw [hW]; exact Cells.new w _ rfl _ _
  have HZ : Hid (W.heap.size = w.heap.size + 1) := by rw [hW]; show _ = _; simp
  have HDO : Hid (doD p gives (18, a, b) d = d.obj.put [-1]) := by show _ = _; simp [doD]
  have HWB : Hid (Below w.heap.size w W) := hwW
  clear h hp hsp hok hok' hwW
  go_enter Tryz.func64, Tryz.ntmps64
  go_wp2_with fail
  rw [← hW]
  clear hW
  refine (obj_at u W (w.heap.size :: fs) _ k _ d HF.out HOK.out.2.2).mono ?_
  rintro e w1 ⟨⟨v, rfl⟩, hd⟩
  have HD1 : Hid (DeskAt u W (w.heap.size :: fs) w1 k (.slice pa p.length pc) d.obj) := hd
  have hl1 : d.obj.st.length ≤ 1000 := (Dsk.ok_when (Dsk.ok_take HOK.out) _).2.2
  clear hd
  go_wp2_with fail
  refine (put_at u W (w.heap.size :: fs) _ k _ d.obj (HD1.out.on ((Below.refl _ _).alloc (Nat.le_refl _) _)) hl1 _ _ [-1] (by decide) (irow_new w1 [-1])).mono ?_
  rintro e w2 ⟨⟨v, rfl⟩, hd⟩
  have HE : Hid (DeskAt u W0 fs w2 k (.slice pa p.length pc) (doD p gives (18, a, b) d)) := by
    show DeskAt _ _ _ _ _ _ _
    rw [HDO.out]
    exact HH.out.back (gs := [w.heap.size]) HWB.out hd
  clear hd
  go_wp2
  go_end0
  exact ⟨⟨_, rfl⟩, HE.out⟩

set_option maxRecDepth 100000 in
set_option maxHeartbeats 4000000 in
theorem do_14 (B : Nat) (p : Prg) (hok' : okP p = true) (hsp : SmallP p) (u W0 : World) (fs : List Nat) (w : World) (k : Nat) (pa : Option Addr) (pc : Nat) (hp : SK front B u (.slice pa p.length pc) p) (d : Dsk) (hok : d.ok p) (h : DeskAt u W0 fs w k (.slice pa p.length pc) d) (a : Nat) (b gives : Int) :
    Calls Tryz.prog 64 #[.pointer (some ⟨k, 0, none⟩), .agg #[.int .i64 14, .int .i64 a, .int .i64 b], .int .i64 gives] w fun e w' => (∃ v, e = .returned v) ∧ DeskAt u W0 fs w' k (.slice pa p.length pc) (doD p gives (14, a, b) d) := by
  have HP : Hid (SK front B u (.slice pa p.length pc) p) := hp
  have HSP : Hid (SmallP p) := hsp
  have hp0 : 0 < p.length := (okP_len hok').1
  have h6 : p.length ≤ 6 := (okP_len hok').2
  have HSU : Hid (SupOk p p.length) := (ok_sup hok').sup
  have HH : Hid (DeskAt u W0 fs w k (.slice pa p.length pc) d) := h
  have HOK : Hid (d.ok p) := hok
  obtain ⟨W, hW⟩ : ∃ W, W = w.alloc (.cells #[.int .i64 14, .int .i64 a, .int .i64 b] 39) := ⟨_, rfl⟩
  have hwW : Below w.heap.size w W := by rw [hW]; exact (Below.refl _ _).alloc (Nat.le_refl _) _
  have HF : Hid (DeskAt u W (w.heap.size :: fs) W k (.slice pa p.length pc) d) := by rw [hW]; exact h.fresh _
  have CI : Hid (Cells W w.heap.size [.int .i64 14, .int .i64 a, .int .i64 b]) := by rw [hW]; exact Cells.new w _ rfl _ _
  have HZ : Hid (W.heap.size = w.heap.size + 1) := by rw [hW]; show _ = _; simp
  have HDO : Hid (doD p gives (14, a, b) d = (d.when (decide ((a : Int) < (p.length : Int)))).put [classV p a]) := by show _ = _; simp [doD]
  have HWB : Hid (Below w.heap.size w W) := hwW
  clear h hp hsp hok hok' hwW
  go_enter Tryz.func64, Tryz.ntmps64
  go_wp2_with fail
  rw [← hW]
  clear hW
  refine (class_at u W (w.heap.size :: fs) _ k _ p.length pc d HF.out a (by omega)).mono ?_
  rintro e w1 ⟨rfl, hd⟩
  have HD1 : Hid (DeskAt u W (w.heap.size :: fs) w1 k (.slice pa p.length pc) (d.when (decide ((a : Int) < (p.length : Int))))) := hd
  have hl1 : (d.when (decide ((a : Int) < (p.length : Int)))).st.length ≤ 1000 := (Dsk.ok_when HOK.out _).2.2
  have HV : Hid ((if (a : Int) < (p.length : Int) then (a : Int) else -3) = classV p a) := rfl
  rw [HV.out]
  clear hd HV
  generalize classV p a = x at *
  go_wp2_with fail
  refine (put_at u W (w.heap.size :: fs) _ k _ _ (HD1.out.on ((Below.refl _ _).alloc (Nat.le_refl _) _)) hl1 _ _ [x] (by simp) (irow_new w1 [x])).mono ?_
  rintro e w2 ⟨⟨v, rfl⟩, hd⟩
  have HE : Hid (DeskAt u W0 fs w2 k (.slice pa p.length pc) (doD p gives (14, a, b) d)) := by
    show DeskAt _ _ _ _ _ _ _
    rw [HDO.out]
    exact HH.out.back (gs := [w.heap.size]) HWB.out hd
  clear hd
  go_wp2
  go_end0
  exact ⟨⟨_, rfl⟩, HE.out⟩

set_option maxRecDepth 100000 in
set_option maxHeartbeats 4000000 in
theorem do_15 (B : Nat) (p : Prg) (hok' : okP p = true) (hsp : SmallP p) (u W0 : World) (fs : List Nat) (w : World) (k : Nat) (pa : Option Addr) (pc : Nat) (hp : SK front B u (.slice pa p.length pc) p) (d : Dsk) (hok : d.ok p) (h : DeskAt u W0 fs w k (.slice pa p.length pc) d) (a b : Nat) (gives : Int) :
    Calls Tryz.prog 64 #[.pointer (some ⟨k, 0, none⟩), .agg #[.int .i64 15, .int .i64 a, .int .i64 b], .int .i64 gives] w fun e w' => (∃ v, e = .returned v) ∧ DeskAt u W0 fs w' k (.slice pa p.length pc) (doD p gives (15, a, b) d) := by
  have HP : Hid (SK front B u (.slice pa p.length pc) p) := hp
  have HSP : Hid (SmallP p) := hsp
  have hp0 : 0 < p.length := (okP_len hok').1
  have h6 : p.length ≤ 6 := (okP_len hok').2
  have HSU : Hid (SupOk p p.length) := (ok_sup hok').sup
  have HH : Hid (DeskAt u W0 fs w k (.slice pa p.length pc) d) := h
  have HOK : Hid (d.ok p) := hok
  obtain ⟨W, hW⟩ : ∃ W, W = w.alloc (.cells #[.int .i64 15, .int .i64 a, .int .i64 b] 39) := ⟨_, rfl⟩
  have hwW : Below w.heap.size w W := by rw [hW]; exact (Below.refl _ _).alloc (Nat.le_refl _) _
  have HF : Hid (DeskAt u W (w.heap.size :: fs) W k (.slice pa p.length pc) d) := by rw [hW]; exact h.fresh _
  have CI : Hid (Cells W w.heap.size [.int .i64 15, .int .i64 a, .int .i64 b]) := by rw [hW]; exact Cells.new w _ rfl _ _
  have HZ : Hid (W.heap.size = w.heap.size + 1) := by rw [hW]; show _ = _; simp
  have HDO : Hid (doD p gives (15, a, b) d = ((d.fits p [(a : Int)]).when (fldF p a b).isSome).put [fieldV p a b]) := by show _ = _; simp [doD]
  have HWB : Hid (Below w.heap.size w W) := hwW
  clear h hp hsp hok hok' hwW
  go_enter Tryz.func64, Tryz.ntmps64
  go_wp2_with fail
  rw [← hW]
  clear hW
  have HD1 : Hid (DeskAt u (W.alloc (.cells #[.int .i64 a] 2)) ((w.heap.size + 1) :: w.heap.size :: fs) (W.alloc (.cells #[.int .i64 a] 2)) k (.slice pa p.length pc) d) := by rw [← HZ.out]; exact HF.out.fresh _
  have HB1 : Hid (Below w.heap.size w (W.alloc (.cells #[.int .i64 a] 2))) := HWB.out.alloc HWB.out.size _
  have CI1 : Hid (Cells (W.alloc (.cells #[.int .i64 a] 2)) w.heap.size [.int .i64 15, .int .i64 a, .int .i64 b]) := CI.out.alloc _
  refine (fits_at B p hp0 h6 HSU.out u _ ((w.heap.size + 1) :: w.heap.size :: fs) _ k pa pc HP.out d HOK.out HD1.out _ _ [(a : Int)] (by simp) (by simp) (irow_newAt W _ [(a : Int)] HZ.out.symm) (by have := HZ.out; simp; omega) (by simp)).mono ?_
  rintro e w1 ⟨⟨v, rfl⟩, hd⟩
  have CI2 := hd.kept (by simp) CI1.out
  obtain ⟨i1, _⟩ := CI2.g1
  obtain ⟨i2, _⟩ := CI2.g2
  have HD2 : Hid (DeskAt u (W.alloc (.cells #[.int .i64 a] 2)) ((w.heap.size + 1) :: w.heap.size :: fs) w1 k (.slice pa p.length pc) (d.fits p [(a : Int)])) := hd
  have HOK1 : Hid ((d.fits p [(a : Int)]).ok p) := ok_fold HOK.out _
  clear hd HD1 CI2
  go_wp2_with fail
  refine (field_at B p HSP.out u _ ((w.heap.size + 1) :: w.heap.size :: fs) w1 k pa pc HP.out _ HD2.out a b).mono ?_
  rintro e w2 ⟨rfl, hd⟩
  have HD3 : Hid (DeskAt u (W.alloc (.cells #[.int .i64 a] 2)) ((w.heap.size + 1) :: w.heap.size :: fs) w2 k (.slice pa p.length pc) ((d.fits p [(a : Int)]).when (fldF p a b).isSome)) := hd
  have hl1 : ((d.fits p [(a : Int)]).when (fldF p a b).isSome).st.length ≤ 1000 := (Dsk.ok_when HOK1.out _).2.2
  clear hd HD2 i1 i2
  generalize fieldV p a b = x at *
  go_wp2_with fail
  refine (put_at u _ ((w.heap.size + 1) :: w.heap.size :: fs) _ k _ _ (HD3.out.on ((Below.refl _ _).alloc (Nat.le_refl _) _)) hl1 _ _ [x] (by simp) (irow_new w2 [x])).mono ?_
  rintro e w3 ⟨⟨v, rfl⟩, hd⟩
  have HE : Hid (DeskAt u W0 fs w3 k (.slice pa p.length pc) (doD p gives (15, a, b) d)) := by
    show DeskAt _ _ _ _ _ _ _
    rw [HDO.out]
    exact HH.out.back (gs := [w.heap.size + 1, w.heap.size]) HB1.out hd
  clear hd
  go_wp2
  go_end0
  exact ⟨⟨_, rfl⟩, HE.out⟩
end Pg
end Go.Proofs.YtfdlljdljefkfaaGreatDoor
