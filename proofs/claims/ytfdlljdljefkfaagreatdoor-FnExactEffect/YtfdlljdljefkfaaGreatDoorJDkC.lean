/- Contracts of the desk's doing of a step (DkA). -/
import Derived.Test.YtfdlljdljefkfaaGreatDoorJDk5
import Derived.Test.YtfdlljdljefkfaaGreatDoorJDk6
import Derived.Test.YtfdlljdljefkfaaGreatDoorJDk8
import Derived.Test.YtfdlljdljefkfaaGreatDoorJDk9
namespace Go.Proofs.YtfdlljdljefkfaaGreatDoor
namespace Pg
open Go.ChangeShapes Go.WideShapes Go.ChangeAt Go.RowKit St

/-- What the looking for a method answers, in one form. -/
theorem call_one {B : Nat} {p : Prg} (hok' : okP p = true) {a b : Nat} {u W : World} {fs : List Nat} {k : Nat} {pv : Value} {d : Dsk} (hok : d.ok p) {e : Ending} {w1 : World} (h : (a < p.length ∧ CallPost B p a b u W fs k pv d e w1) ∨ (¬ a < p.length ∧ e = .returned (.agg #[.int .i64 0, .slice none 0 0, .int .i64 0, .slice none 0 0]) ∧ DeskAt u W fs w1 k pv d.refuse)) :
    ∃ (nm : Int) (va : Value) (l : List Int) (gv : Int) (x2 : Option Addr) (n2 z2 : Nat) (d1 : Dsk), e = .returned (.agg #[.int .i64 nm, va, .int .i64 gv, .slice x2 n2 z2]) ∧ SI true B u va l ∧ l.length ≤ 3 ∧ (∀ x ∈ l, -3 ≤ x) ∧ d1.ok p ∧ DeskAt u W fs w1 k pv d1 ∧ (d1.fits p ((a : Int) :: l)).put [gv] = d.call p a b := by
  rcases h with ⟨ha, ⟨m, va, vc, hc, rfl, hmv, hd⟩ | ⟨hc, rfl, hd⟩⟩ | ⟨ha, rfl, hd⟩
  · obtain ⟨x2, z2, rfl⟩ := front.form hmv.2
    have hm := okM_parts (call_ok hok' hc)
    refine ⟨m.name, va, m.args, m.gives, x2, _, z2, d, rfl, hmv.1, hm.1, fun x hx => ?_, hok, hd, ?_⟩
    · exact (kind_bd (ty_kind (List.all_eq_true.1 hm.2.1 x hx))).1
    · unfold Dsk.call callD
      rw [if_pos (by omega), hc]
  · refine ⟨0, _, [], 0, none, 0, 0, d.refuse, rfl, SI.nil true B u, by simp, by simp, hok, hd, ?_⟩
    unfold Dsk.call callD
    rw [if_pos (by omega), hc]
  · refine ⟨0, _, [], 0, none, 0, 0, d.refuse, rfl, SI.nil true B u, by simp, by simp, hok, hd, ?_⟩
    unfold Dsk.call callD
    rw [if_neg (by omega)]
/-- Another block is none of the desk's. -/
theorem DeskAt.more {u W0 : World} {fs : List Nat} {w w' : World} {k : Nat} {pv : Value} {d : Dsk} (h : DeskAt u W0 fs w k pv d) (hb : Below w.heap.size w w') {z : Nat} (h1 : w.heap.size ≤ z) (h2 : z < w'.heap.size) : DeskAt u w' (z :: fs) w' k pv d := by
  obtain ⟨sv, g, c, ev, h⟩ := h
  have hk := h.kLt
  have hg := room_lt h.room (by omega)
  have hs := h.own.lt
  have hf := h.far
  have h := h.on hb
  refine ⟨sv, g, c, ev, h.below, h.hk, h.cells, h.err, h.own, h.hg, h.gk, h.sg, h.sk, h.len, h.row, h.room, fun b hb' => ?_, KeepsOthers.refl _⟩
  rcases List.mem_cons.1 hb' with rfl | hb'
  · refine ⟨h2, rfl, by omega, by omega, fun e => ?_⟩
    have := (hs _ e).2
    omega
  · obtain ⟨a1, a2, a3⟩ := hf b hb'
    exact ⟨Nat.lt_of_lt_of_le (blk_lt a1 a2) hb.size, rfl, a3⟩
theorem own_irow {w : World} {B : Nat} {v : Value} {l : List Int} (h : w.ownsRow B 2 1 v l.length (nums l)) (h0 : 0 < l.length) : ∃ g cap, v = .slice (some ⟨g, 0, none⟩) l.length cap ∧ B ≤ g ∧ g < w.heap.size ∧ IRow w g 0 l := by
  obtain ⟨g, cap, rfl, _⟩ := own_read h (List.getElem?_eq_getElem h0)
  have hl := h.lt g rfl
  refine ⟨g, cap, rfl, hl.1, hl.2, fun j x hj => ?_⟩
  obtain ⟨g', cap', hv, hc⟩ := own_read h hj
  injection hv with e1 _ e3
  injection e1 with e1
  injection e1 with e1
  subst e1
  rw [Nat.zero_add]
  exact hc

set_option maxRecDepth 100000 in
set_option maxHeartbeats 4000000 in
theorem do_17 (B : Nat) (p : Prg) (hok' : okP p = true) (hsp : SmallP p) (u W0 : World) (fs : List Nat) (w : World) (k : Nat) (pa : Option Addr) (pc : Nat) (hp : SK front B u (.slice pa p.length pc) p) (d : Dsk) (hok : d.ok p) (h : DeskAt u W0 fs w k (.slice pa p.length pc) d) (a b : Nat) (gives : Int) :
    Calls Tryz.prog 64 #[.pointer (some ⟨k, 0, none⟩), .agg #[.int .i64 17, .int .i64 a, .int .i64 b], .int .i64 gives] w fun e w' => (∃ v, e = .returned v) ∧ DeskAt u W0 fs w' k (.slice pa p.length pc) (doD p gives (17, a, b) d) := by
  have HP : Hid (SK front B u (.slice pa p.length pc) p) := hp
  have HSP : Hid (SmallP p) := hsp
  have hp0 : 0 < p.length := (okP_len hok').1
  have h6 : p.length ≤ 6 := (okP_len hok').2
  have HSU : Hid (SupOk p p.length) := (ok_sup hok').sup
  have HH : Hid (DeskAt u W0 fs w k (.slice pa p.length pc) d) := h
  have HOK : Hid (d.ok p) := hok
  obtain ⟨W, hW⟩ : ∃ W, W = w.alloc (.cells #[.int .i64 17, .int .i64 a, .int .i64 b] 39) := ⟨_, rfl⟩
  have hwW : Below w.heap.size w W := by rw [hW]; exact (Below.refl _ _).alloc (Nat.le_refl _) _
  have HF : Hid (DeskAt u W (w.heap.size :: fs) W k (.slice pa p.length pc) d) := by rw [hW]; exact h.fresh _
  have CI : Hid (Cells W w.heap.size [.int .i64 17, .int .i64 a, .int .i64 b]) := by rw [hW]; exact Cells.new w _ rfl _ _
  have HZ : Hid (W.heap.size = w.heap.size + 1) := by rw [hW]; show _ = _; simp
  have HDO : Hid (doD p gives (17, a, b) d = d.call p a b) := by show _ = _; simp [doD]
  have HWB : Hid (Below w.heap.size w W) := hwW
  obtain ⟨i0, hif, hz0, hz1, hz2⟩ := info_parts infoN
  have HFV : Hid (okP p = true) := hok'
  clear h hp hsp hok hok' hwW
  go_enter Tryz.func64, Tryz.ntmps64
  go_wp2_with fail
  rw [← hW]
  clear hW
  refine (method_at B p HSP.out h6 HSU.out u W (w.heap.size :: fs) W k pa pc HP.out d HF.out a b).mono ?_
  intro e w1 hpost
  obtain ⟨nm, va, l, gv, x2, n2, z2, d1, rfl, hsi, hl3, hl, hok1, hd, hcall⟩ := call_one HFV.out HOK.out hpost
  obtain ⟨a1, z1, rfl⟩ := hsi.form
  have HCALL : Hid ((d1.fits p ((a : Int) :: l)).put [gv] = d.call p a b) := hcall
  have HOK1 : Hid (d1.ok p) := hok1
  have HLK : Hid (∀ x ∈ (a : Int) :: l, -3 ≤ x) := fun x hx => by
    rcases List.mem_cons.1 hx with rfl | hx
    · omega
    · exact hl x hx
  obtain ⟨V, hV⟩ : ∃ V, V = w1.alloc (.cells #[.int .i64 nm, .slice a1 l.length z1, .int .i64 gv, .slice x2 n2 z2] 51) := ⟨_, rfl⟩
  have hbV : Below w1.heap.size w1 V := by rw [hV]; exact (Below.refl _ _).alloc (Nat.le_refl _) _
  have HDV : Hid (DeskAt u V (w1.heap.size :: w.heap.size :: fs) V k (.slice pa p.length pc) d1) := by rw [hV]; exact hd.fresh _
  have CV0 : Hid (Cells V w1.heap.size [.int .i64 nm, .slice a1 l.length z1, .int .i64 gv, .slice x2 n2 z2]) := by rw [hV]; exact Cells.new w1 _ rfl _ _
  have CIV : Hid (Cells V w.heap.size [.int .i64 17, .int .i64 a, .int .i64 b]) := (hd.kept (by simp) CI.out).on hbV
  have HBK : Hid (∀ w' X, DeskAt u V (w1.heap.size :: w.heap.size :: fs) w' k (.slice pa p.length pc) X → DeskAt u W0 fs w' k (.slice pa p.length pc) X) := fun w' X h' => HH.out.back (gs := [w.heap.size]) HWB.out (hd.back (gs := [w1.heap.size]) hbV h')
  have HSI : Hid (SI true B V (.slice a1 l.length z1) l) := SI.on hsi (Keep.of (below_over hd.below hbV))
  have HUV : Hid (u.heap.size ≤ V.heap.size) := HDV.out.below.size
  clear hd hcall hok1 hl hsi hpost hbV HF HH HWB CI HFV
  obtain ⟨ia, _⟩ := CIV.out.g1
  have r1 : (V.alloc (.cells #[.int .i64 a] 2)).cell? ⟨w1.heap.size, 1, none⟩ = some (.slice a1 l.length z1) := ((CV0.out.alloc _).g1).1
  have HSI1 : Hid (SI true B (V.alloc (.cells #[.int .i64 a] 2)) (.slice a1 l.length z1) l) := SI.on HSI.out (Keep.of ((Below.refl _ _).alloc (Nat.le_refl _) _))
  have HGL : Hid (Grow V.heap.size (V.alloc (.cells #[.int .i64 a] 2)) (.slice (some ⟨V.heap.size, 0, none⟩) 1 1) [(a : Int)]) := grow_lit1 V a
  subst hV
  simp only [World.size_alloc] at HGL
  go_wp2_with (at_builtin; refine wpList_grow rfl _ _ rfl (w1.heap.size + 1) _ _ rfl HGL.out (by simp) a1 z1 B l rfl HSI1.out (by simp; omega) ?_)
  intro v3 w3 hg3 hk3
  obtain ⟨z, cz, hv3, hz1, hz2, hz3, _⟩ := hg3.gint
  have hv3' : v3 = .slice (some ⟨z, 0, none⟩) (((a : Int) :: l).length) cz := hv3
  clear hv3
  subst hv3'
  have hb3 : Below (w1.heap.size + 1) (w1.alloc (.cells #[.int .i64 nm, .slice a1 l.length z1, .int .i64 gv, .slice x2 n2 z2] 51)) w3 := ((Below.refl _ _).alloc (by simp) _).trans hk3.below
  have hb3' : Below (w1.alloc (.cells #[.int .i64 nm, .slice a1 l.length z1, .int .i64 gv, .slice x2 n2 z2] 51)).heap.size (w1.alloc (.cells #[.int .i64 nm, .slice a1 l.length z1, .int .i64 gv, .slice x2 n2 z2] 51)) w3 := by simpa using hb3
  have HD3 : Hid (DeskAt u w3 (z :: w1.heap.size :: w.heap.size :: fs) w3 k (.slice pa p.length pc) d1) := HDV.out.more hb3' (by simpa using hz1) hz2
  have CV3 : Hid (Cells w3 w1.heap.size [.int .i64 nm, .slice a1 l.length z1, .int .i64 gv, .slice x2 n2 z2]) := CV0.out.on hb3'
  have HBK3 : Hid (∀ w' X, DeskAt u w3 (z :: w1.heap.size :: w.heap.size :: fs) w' k (.slice pa p.length pc) X → DeskAt u W0 fs w' k (.slice pa p.length pc) X) := fun w' X h' => HBK.out w' X (HDV.out.back (gs := [z]) hb3' h')
  have hz3' : IRow w3 z 0 ((a : Int) :: l) := hz3
  clear hg3 hk3 hb3 hb3' HBK HSI HSI1 HGL r1 ia hz3 CIV CV0 HDV
  go_wp2_with fail
  refine (fits_at B p hp0 h6 HSU.out u w3 (z :: w1.heap.size :: w.heap.size :: fs) w3 k pa pc HP.out d1 HOK1.out HD3.out z cz ((a : Int) :: l) (by simp; omega) HLK.out hz3' hz2 (by simp)).mono ?_
  rintro e w4 ⟨⟨v, rfl⟩, hd⟩
  have HD4 : Hid (DeskAt u w3 (z :: w1.heap.size :: w.heap.size :: fs) w4 k (.slice pa p.length pc) (d1.fits p ((a : Int) :: l))) := hd
  obtain ⟨q2, _⟩ := (hd.kept (by simp) CV3.out).g2
  have hl4 : (d1.fits p ((a : Int) :: l)).st.length ≤ 1000 := (ok_fold HOK1.out _).2.2
  clear hd HD3 hz3'
  go_wp2_with fail
  refine (put_at u w3 (z :: w1.heap.size :: w.heap.size :: fs) _ k _ (d1.fits p ((a : Int) :: l)) (HD4.out.on ((Below.refl _ _).alloc (Nat.le_refl _) _)) hl4 _ _ [gv] (by simp) (irow_new w4 [gv])).mono ?_
  rintro e w5 ⟨⟨v, rfl⟩, hd⟩
  have HE : Hid (DeskAt u W0 fs w5 k (.slice pa p.length pc) (doD p gives (17, a, b) d)) := by
    show DeskAt _ _ _ _ _ _ _
    rw [HDO.out, ← HCALL.out]
    exact HBK3.out _ _ hd
  clear hd
  go_wp2
  go_end0
  exact ⟨⟨_, rfl⟩, HE.out⟩
end Pg
end Go.Proofs.YtfdlljdljefkfaaGreatDoor

/- The contract of the desk's doing of a step, whichever it is. -/
namespace Go.Proofs.YtfdlljdljefkfaaGreatDoor
namespace Pg
open Go.ChangeShapes Go.WideShapes Go.ChangeAt Go.RowKit St

theorem do_at (B : Nat) (p : Prg) (hok' : okP p = true) (hsp : SmallP p) (u W0 : World) (fs : List Nat) (w : World) (k : Nat) (pa : Option Addr) (pc : Nat) (hp : SK front B u (.slice pa p.length pc) p) (d : Dsk) (hok : d.ok p) (h : DeskAt u W0 fs w k (.slice pa p.length pc) d) (i : Tx.Ins) (hi : Tx.okT i = true) (gives : Int) (hg : -3 ≤ gives) :
    Calls Tryz.prog 64 #[.pointer (some ⟨k, 0, none⟩), .agg #[.int .i64 i.1, .int .i64 i.2.1, .int .i64 i.2.2], .int .i64 gives] w fun e w' => (∃ v, e = .returned v) ∧ DeskAt u W0 fs w' k (.slice pa p.length pc) (doD p gives i d) := by
  obtain ⟨op, a, b⟩ := i
  have ho := Tx.ok_op hi
  unfold Tx.okT Tx.okI at hi
  dsimp only at hi ho ⊢
  have hcs : op = 1 ∨ op = 2 ∨ op = 3 ∨ op = 4 ∨ op = 5 ∨ op = 6 ∨ op = 7 ∨ op = 8 ∨ op = 9 ∨ op = 10 ∨ op = 11 ∨ op = 12 ∨ op = 13 ∨ op = 14 ∨ op = 15 ∨ op = 16 ∨ op = 17 ∨ op = 18 ∨ op = 19 ∨ op = 20 := by omega
  rcases hcs with rfl | rfl | rfl | rfl | rfl | rfl | rfl | rfl | rfl | rfl | rfl | rfl | rfl | rfl | rfl | rfl | rfl | rfl | rfl | rfl
  · exact do_1 B p hok' hsp u W0 fs w k pa pc hp d hok h a b gives
  · simp [Tx.limA, Tx.limB] at hi
    obtain ⟨a, rfl⟩ := Int.eq_ofNat_of_zero_le hi.1.1.1
    exact do_2 B p hok' hsp u W0 fs w k pa pc hp d hok h a b gives (by omega)
  · simp [Tx.limA, Tx.limB] at hi
    obtain ⟨a, rfl⟩ := Int.eq_ofNat_of_zero_le hi.1.1.1
    exact do_3 B p hok' hsp u W0 fs w k pa pc hp d hok h a b gives (by omega)
  · exact do_4 B p hok' hsp u W0 fs w k pa pc hp d hok h a b gives
  · exact do_5 B p hok' hsp u W0 fs w k pa pc hp d hok h a b gives
  · exact do_6 B p hok' hsp u W0 fs w k pa pc hp d hok h a b gives
  · exact do_7 B p hok' hsp u W0 fs w k pa pc hp d hok h a b gives
  · exact do_8 B p hok' hsp u W0 fs w k pa pc hp d hok h a b gives
  · exact do_9 B p hok' hsp u W0 fs w k pa pc hp d hok h a b gives
  · exact do_10 B p hok' hsp u W0 fs w k pa pc hp d hok h a b gives
  · exact do_11 B p hok' hsp u W0 fs w k pa pc hp d hok h a b gives
  · exact do_12 B p hok' hsp u W0 fs w k pa pc hp d hok h a b gives
  · exact do_13 B p hok' hsp u W0 fs w k pa pc hp d hok h a b gives
  · simp [Tx.limA, Tx.limB] at hi
    obtain ⟨a, rfl⟩ := Int.eq_ofNat_of_zero_le hi.1.1.1
    exact do_14 B p hok' hsp u W0 fs w k pa pc hp d hok h a b gives
  · simp [Tx.limA, Tx.limB] at hi
    obtain ⟨a, rfl⟩ := Int.eq_ofNat_of_zero_le hi.1.1.1
    obtain ⟨b, rfl⟩ := Int.eq_ofNat_of_zero_le hi.1.2
    exact do_15 B p hok' hsp u W0 fs w k pa pc hp d hok h a b gives
  · simp [Tx.limA, Tx.limB] at hi
    obtain ⟨a, rfl⟩ := Int.eq_ofNat_of_zero_le hi.1.1.1
    obtain ⟨b, rfl⟩ := Int.eq_ofNat_of_zero_le hi.1.2
    exact do_16 B p hok' hsp u W0 fs w k pa pc hp d hok h a b gives
  · simp [Tx.limA, Tx.limB] at hi
    obtain ⟨a, rfl⟩ := Int.eq_ofNat_of_zero_le hi.1.1.1
    obtain ⟨b, rfl⟩ := Int.eq_ofNat_of_zero_le hi.1.2
    exact do_17 B p hok' hsp u W0 fs w k pa pc hp d hok h a b gives
  · exact do_18 B p hok' hsp u W0 fs w k pa pc hp d hok h a b gives
  · exact do_19 B p hok' hsp u W0 fs w k pa pc hp d hok h a b gives
  · exact do_20 B p hok' hsp u W0 fs w k pa pc hp d hok h a b gives hg
end Pg
end Go.Proofs.YtfdlljdljefkfaaGreatDoor

/- Copies of states; the contract of the checker's effect. -/
namespace Go.Proofs.YtfdlljdljefkfaaGreatDoor
namespace Pg
open Go.ChangeShapes Go.WideShapes Go.ChangeAt Go.RowKit St

set_option maxRecDepth 100000 in
set_option maxHeartbeats 800000 in
/-- A copy that is one's own. -/
theorem cloneO (B : Nat) (a : Option Addr) (cap : Nat) (l : List Int) (hl : l.length ≤ 1048576) (w : World) (h : SI true B w (.slice a l.length cap) l) :
    Calls Tryz.prog 78 #[.slice a l.length cap] w fun e w' => ∃ v, e = .returned v ∧ w'.ownsRow w.heap.size 2 1 v l.length (nums l) ∧ Below w.heap.size w w' := by
  obtain ⟨i0, hif, hz0, hz1, hz2⟩ := info_parts infoN
  cases a with
  | none =>
    obtain ⟨rfl, _, rfl⟩ := Arr.nil h
    clear h
    have hq : ∀ W : World, (binOp .eql 27 (.slice none 0 0) (.slice none 0 0)).run Tryz.prog W = .ok (.bool true) W := fun W => Lib.run_eql_slice_nil W _ _ _ _ _ _ _ Tryz.underlying27
    go_enter Tryz.func78, Tryz.ntmps78
    go_wp2
    go_ret
    exact ⟨_, rfl, World.ownsRow_nil _ _ _ _, Below.refl _ _⟩
  | some ad =>
    have HN : Hid (∀ x, Below w.heap.size w x → ∀ j u, (nums l)[j]? = some u → x.cell? (ad.add j) = some u) := fun x hx => SI.nums (SI.on h (Keep.of hx))
    clear h
    have hq : ∀ W : World, (binOp .eql 27 (.slice (some ad) l.length cap) (.slice none 0 0)).run Tryz.prog W = .ok (.bool false) W := fun W => Lib.run_eql_slice_nil W _ _ _ _ _ _ _ Tryz.underlying27
    go_enter Tryz.func78, Tryz.ntmps78
    go_wp2_with (at_builtin; refine wpList_append_own _ rfl _ _ 27 rfl w.heap.size 2 i0 (.int .i64 0) 1 8 Tryz.underlying27 hif hz0 hz1 hz2 rfl (by decide) _ _ _ rfl (World.ownsRow_made w #[] 0 (Nat.le_refl _) (by decide) (by simp)) ad l.length cap (nums l) rfl (by simp [nums]) (HN.out _ ((Below.refl _ _).alloc (Nat.le_refl _) _)) (nums_one _) (by unfold maxLen; omega) (by omega) (by simp) ?_)
    intro v' w1 hown hgrow hnil
    have hb : Below w.heap.size w w1 := ((Below.refl _ _).alloc (Nat.le_refl _) _).grown hgrow (by simp) (fun g hg => by simp [Value.ownBlock] at hg; omega)
    have HG : Hid (w1.ownsRow w.heap.size 2 1 v' l.length (nums l)) := hown
    clear hown hgrow hnil
    go_wp2
    go_ret
    exact ⟨_, rfl, HG.out, hb⟩

/-- A row that was there and one that is new are apart. -/
theorem own_apart {u w : World} {B : Nat} {v v' : Value} {n n' : Nat} {xs xs' : List Value} (h : u.ownsRow B 2 1 v n xs) (h' : w.ownsRow u.heap.size 2 1 v' n' xs') : v.ownBlock = none ∨ v.ownBlock ≠ v'.ownBlock := by
  cases hv : v.ownBlock with
  | none => exact .inl rfl
  | some g =>
    refine .inr fun e => ?_
    have h1 := (h.lt g hv).2
    have h2 := (h'.lt g e.symm).1
    omega
theorem own_two {w : World} {B : Nat} {v : Value} {n : Nat} {xs : List Value} {k : Nat} {x y : Value} (h : w.ownsRow B 2 1 v n xs) (hk : k < B) : ((w.setCell ⟨k, 0, none⟩ x).setCell ⟨k, 1, none⟩ y).ownsRow B 2 1 v n xs := by
  have hne : v.ownBlock ≠ some k := fun e => by have := (h.lt k e).1; omega
  exact own_off (own_off h (grown_cell w ⟨k, 0, none⟩ x) hne) (grown_cell _ ⟨k, 1, none⟩ y) hne
/-- A state that is one's own: both rows, apart. -/
def OwnS (B : Nat) (w : World) (sv lv : Value) (s : Sta) : Prop :=
  w.ownsRow B 2 1 sv s.1.length (nums s.1) ∧ w.ownsRow B 2 1 lv s.2.length (nums s.2) ∧ (sv.ownBlock = none ∨ sv.ownBlock ≠ lv.ownBlock)

set_option maxRecDepth 100000 in
set_option maxHeartbeats 2000000 in
theorem copied_at (B : Nat) (z1 z2 : Option Addr) (c1 c2 : Nat) (st lo : List Int) (hs1 : st.length ≤ 1000) (hl1 : lo.length ≤ 1000) (w : World) (hs : SI true B w (.slice z1 st.length c1) st) (hl : SI true B w (.slice z2 lo.length c2) lo) :
    Calls Tryz.prog 63 #[.agg #[.slice z1 st.length c1, .slice z2 lo.length c2]] w fun e w' => ∃ x1 y1 x2 y2, e = .returned (.agg #[.slice x1 st.length y1, .slice x2 lo.length y2]) ∧ OwnS w.heap.size w' (.slice x1 st.length y1) (.slice x2 lo.length y2) (st, lo) ∧ Below w.heap.size w w' := by
  have HS : Hid (SI true B w (.slice z1 st.length c1) st) := hs
  have HL : Hid (SI true B w (.slice z2 lo.length c2) lo) := hl
  clear hs hl
  obtain ⟨W, hW⟩ : ∃ W, W = (w.alloc (.cells #[.slice z1 st.length c1, .slice z2 lo.length c2] 32)).alloc (.cells #[.slice none 0 0, .slice none 0 0] 32) := ⟨_, rfl⟩
  have hwW : Below w.heap.size w W := by rw [hW]; exact ((Below.refl _ _).alloc (Nat.le_refl _) _).alloc (by simp) _
  have C0 : Hid (Cells W w.heap.size [.slice z1 st.length c1, .slice z2 lo.length c2]) := by rw [hW]; exact (Cells.new w _ rfl _ _).alloc _
  have R0 : Hid (Cells W (w.heap.size + 1) [.slice none 0 0, .slice none 0 0]) := by rw [hW]; exact Cells.new (w.alloc _) _ (by simp) _ _
  have HZ : Hid (w.heap.size + 1 < W.heap.size) := by rw [hW]; show _ < _; simp
  go_enter Tryz.func63, Tryz.ntmps63
  go_wp2_with fail
  rw [← hW]
  clear hW
  have hW0 : Below W.heap.size W W.drew := (Below.refl _ _).drew
  refine wp_region_held_drew (S := fun x => Cells x w.heap.size [.slice z1 st.length c1, .slice z2 lo.length c2]) (by kernel_rfl) (C0.out.on hW0) (fun hHeld => ?_)
  refine wpAnyH_take (i := 0) (v := ?_) rfl (by kernel_rfl) (by kernel_rfl) (by kernel_rfl) (fun _ _ _ h => h) (Or.inl ⟨by rfl, ?_⟩) hHeld ?_
  rotate_left 1
  · intro w' hSw
    obtain ⟨s2, _⟩ := Cells.g0 hSw
    obtain ⟨s3, _⟩ := Cells.g1 hSw
    go_simp
    try with_reducible rfl
  simp only [Act.put]
  refine wpAnyH_take (i := 1) (v := ?_) rfl (by kernel_rfl) (by kernel_rfl) (by kernel_rfl) (fun _ _ _ h => h) (Or.inl ⟨by rfl, ?_⟩) hHeld ?_
  rotate_left 1
  · intro w' hSw
    obtain ⟨s2, _⟩ := Cells.g0 hSw
    obtain ⟨s3, _⟩ := Cells.g1 hSw
    go_simp
    try with_reducible rfl
  simp only [Act.put]
  refine wpAnyH_take (i := 3) (v := ?_) rfl (by kernel_rfl) (by kernel_rfl) (by kernel_rfl) (fun _ _ _ h => h) (Or.inl ⟨by rfl, ?_⟩) hHeld ?_
  rotate_left 1
  · intro w' hSw
    obtain ⟨s2, _⟩ := Cells.g0 hSw
    obtain ⟨s3, _⟩ := Cells.g1 hSw
    go_simp
    try with_reducible rfl
  simp only [Act.put]
  refine wpAnyH_take (i := 4) (v := ?_) rfl (by kernel_rfl) (by kernel_rfl) (by kernel_rfl) (fun _ _ _ h => h) (Or.inl ⟨by rfl, ?_⟩) hHeld ?_
  rotate_left 1
  · intro w' hSw
    obtain ⟨s2, _⟩ := Cells.g0 hSw
    obtain ⟨s3, _⟩ := Cells.g1 hSw
    go_simp
    try with_reducible rfl
  simp only [Act.put]
  refine wpAnyH_ready (rs := [2]) (by kernel_rfl) (by simp) ?_
  refine AllReadyH.cons rfl (fun K hK => ?_) AllReadyH.nil
  go_simp
  refine (cloneO B z1 c1 st (by omega) _ (SI.on HS.out (Keep.of (below_over hwW hW0)))).mono ?_
  rintro e w1 ⟨v1, rfl, hg1, hb1⟩
  have hW1 : Below W.heap.size W w1 := below_over hW0 hb1
  obtain ⟨x1, y1, rfl, _⟩ := own_form hg1
  have HG1 : Hid (w1.ownsRow W.heap.size 2 1 (.slice x1 st.length y1) st.length (nums st)) := hg1
  clear hg1
  dsimp only
  refine hK.out _ _ (C0.out.on hW1) (fun hHeld => ?_)
  clear hK K
  refine wpAnyH_ready (rs := [5]) (by kernel_rfl) (by simp) ?_
  refine AllReadyH.cons rfl (fun K hK => ?_) AllReadyH.nil
  go_simp
  refine (cloneO B z2 c2 lo (by omega) w1 (SI.on HL.out (Keep.of (below_over hwW hW1)))).mono ?_
  rintro e w2 ⟨v2, rfl, hg2, hb2⟩
  have hW2 : Below W.heap.size W w2 := below_over hW1 hb2
  obtain ⟨x2, y2, rfl, _⟩ := own_form hg2
  have HG2 : Hid (w2.ownsRow w1.heap.size 2 1 (.slice x2 lo.length y2) lo.length (nums lo)) := hg2
  have HG1' : Hid (w2.ownsRow W.heap.size 2 1 (.slice x1 st.length y1) st.length (nums st)) := ownOn HG1.out hb2
  have HNE : Hid ((Value.slice x1 st.length y1).ownBlock = none ∨ (Value.slice x1 st.length y1).ownBlock ≠ (Value.slice x2 lo.length y2).ownBlock) := own_apart HG1.out hg2
  clear hg2 HG1
  dsimp only
  refine hK.out _ _ (C0.out.on hW2) (fun hHeld => ?_)
  clear hK K
  refine wpAnyH_take (i := 6) (v := ?_) rfl (by kernel_rfl) (by kernel_rfl) (by kernel_rfl) (fun _ _ _ h => h) (Or.inl ⟨by rfl, ?_⟩) hHeld ?_
  rotate_left 1
  · intro w' hSw
    obtain ⟨s2, _⟩ := Cells.g0 hSw
    obtain ⟨s3, _⟩ := Cells.g1 hSw
    go_simp
    try with_reducible rfl
  simp only [Act.put]
  refine wpAnyH_ready (rs := [7]) (by kernel_rfl) (by simp) ?_
  refine AllReadyH.cons rfl (fun K hK => ?_) AllReadyH.nil
  have RA := R0.out.on hW2
  obtain ⟨r0, q0⟩ := RA.g0
  obtain ⟨r1, q1⟩ := RA.g1
  have R5 := (RA.s0 (.slice x1 st.length y1)).s1 (.slice x2 lo.length y2)
  obtain ⟨e0, _⟩ := R5.g0
  obtain ⟨e1, _⟩ := R5.g1
  have hWE : Below w.heap.size w ((w2.setCell ⟨w.heap.size + 1, 0, none⟩ (.slice x1 st.length y1)).setCell ⟨w.heap.size + 1, 1, none⟩ (.slice x2 lo.length y2)) := ((below_over hwW hW2).setCell (p := ⟨w.heap.size + 1, 0, none⟩) (by simp) _).setCell (p := ⟨w.heap.size + 1, 1, none⟩) (by simp) _
  have HGS : Hid (w.heap.size + 1 < W.heap.size) := HZ
  have HE1 : Hid (((w2.setCell ⟨w.heap.size + 1, 0, none⟩ (.slice x1 st.length y1)).setCell ⟨w.heap.size + 1, 1, none⟩ (.slice x2 lo.length y2)).ownsRow w.heap.size 2 1 (.slice x1 st.length y1) st.length (nums st)) := ownBase (own_two HG1'.out HGS.out) (by have := HGS.out; omega)
  have HE2 : Hid (((w2.setCell ⟨w.heap.size + 1, 0, none⟩ (.slice x1 st.length y1)).setCell ⟨w.heap.size + 1, 1, none⟩ (.slice x2 lo.length y2)).ownsRow w.heap.size 2 1 (.slice x2 lo.length y2) lo.length (nums lo)) := ownBase (own_two HG2.out (by have := HGS.out; have := hW1.size; omega)) (by have := HGS.out; have := hW1.size; omega)
  go_simp
  refine hK.out _ _ (((C0.out.on hW2).far ⟨w.heap.size + 1, 0, none⟩ _ (by simp)).far ⟨w.heap.size + 1, 1, none⟩ _ (by simp)) (fun hHeld => ?_)
  clear hK K R5 RA
  refine wpAnyH_done (by kernel_rfl) ?_ _
  clear hHeld
  go_wp2
  refine bodyPost_ret (v := .agg #[.slice x1 st.length y1, .slice x2 lo.length y2]) (by simp [results, Tryz.results63, go_sem, e0, e1]) rfl ?_
  exact ⟨x1, y1, x2, y2, rfl, ⟨HE1.out, HE2.out, HNE.out⟩, hWE⟩
end Pg
end Go.Proofs.YtfdlljdljefkfaaGreatDoor
