/- The contract of the specification's Entry: whole. -/
import Derived.Test.YtkcbbpfclfncpaaDoorEn3
namespace Go.Proofs.YtkcbbpfclfncpaaDoor
namespace Pg
open Go.ChangeShapes Go.WideShapes Go.ChangeAt Go.RowKit St

set_option maxRecDepth 100000 in
set_option maxHeartbeats 4000000 in
theorem specEntry (B : Nat) (p : Prg) (a : Option Addr) (cap : Nat) (t name : Int) (hsp : SmallP p) (w : World) (hp : SK front B w (.slice a p.length cap) p) :
    Calls Tryd.prog 5 #[.agg #[.slice a p.length cap], .int .i64 t, .int .i64 name] w fun e w' => StPost (entryF p t name) w e w' := by
  have HSP : Hid (SmallP p) := hsp
  have HP : Hid (SK front B w (.slice a p.length cap) p) := hp
  clear hp hsp
  obtain ⟨W, hW⟩ : ∃ W, W = (w.alloc (.cells #[.slice a p.length cap] 33)).alloc (.cells #[.slice none 0 0, .slice none 0 0] 28) := ⟨_, rfl⟩
  have hwW : Below w.heap.size w W := by rw [hW]; exact ((Below.refl _ _).alloc (Nat.le_refl _) _).alloc (by simp) _
  have R0 : Hid (Cells W (w.heap.size + 1) [.slice none 0 0, .slice none 0 0]) := by rw [hW]; exact Cells.new (w.alloc _) _ (by simp) _ _
  have HZ : Hid (W.heap.size = w.heap.size + 1 + 1) := by rw [hW]; show _ = _; simp
  go_enter Tryd.func5, Tryd.ntmps5
  go_wp2_with fail
  rw [← hW]
  clear hW
  refine (specMethodOf B p a cap t name HSP.out W (SK.on HP.out (Keep.of hwW))).mono ?_
  rintro e w1 ⟨⟨m, xa, ya, xc, yc, hm, rfl, hans⟩ | ⟨hno, rfl⟩, hb1⟩
  · have hmp := meth_parts hm
    have h3 : m.args.length ≤ 3 := (okM_parts hmp.2.2).1
    have HEN : Hid (entryF p t name = some (entF t m.args)) := by show _ = _; unfold entryF; rw [hm]; rfl
    obtain ⟨M, hM1, hM2, hg1, hg2⟩ := hans
    have HSI : Hid (SI true W.heap.size w1 (.slice xa m.args.length ya) m.args) := hg1.si
    obtain ⟨V, hV⟩ : ∃ V, V = w1.alloc (.cells #[.int .i64 m.name, .slice xa m.args.length ya, .int .i64 m.gives, .slice xc m.code.length yc] 43) := ⟨_, rfl⟩
    have hbV : Below W.heap.size W V := by rw [hV]; exact hb1.alloc hb1.size _
    have CV : Cells (w1.alloc (.cells #[.int .i64 m.name, .slice xa m.args.length ya, .int .i64 m.gives, .slice xc m.code.length yc] 43)) w1.heap.size [.int .i64 m.name, .slice xa m.args.length ya, .int .i64 m.gives, .slice xc m.code.length yc] := Cells.new w1 _ rfl _ _
    have HSV : Hid (SI true W.heap.size V (.slice xa m.args.length ya) m.args) := by rw [hV]; exact SI.on HSI.out (Keep.of ((Below.refl _ _).alloc (Nat.le_refl _) _))
    obtain ⟨v0, _⟩ := CV.g0
    obtain ⟨v1, _⟩ := CV.g1
    obtain ⟨v2, _⟩ := CV.g2
    obtain ⟨v3, _⟩ := CV.g3
    have hVe : Hid (V = w1.alloc (.cells #[.int .i64 m.name, .slice xa m.args.length ya, .int .i64 m.gives, .slice xc m.code.length yc] 43)) := hV
    clear hm hg1 hg2 hM1 hM2 hb1 hmp hV CV HSI
    go_wp2_with fail
    rw [← hVe.out]
    refine (l7Entry_at W.heap.size t m.name m.gives xa xc ya m.code.length yc m.args h3 V HSV.out).mono ?_
    rintro e w3 ⟨x1, y1, x2, y2, rfl, hans, hb3⟩
    have hW3 : Below W.heap.size W w3 := below_over hbV hb3
    have RA := R0.out.on hW3
    obtain ⟨r0, q0⟩ := RA.g0
    obtain ⟨r1, q1⟩ := RA.g1
    have R5 := (RA.s0 (.slice x1 0 y1)).s1 (.slice x2 8 y2)
    obtain ⟨e0, _⟩ := R5.g0
    obtain ⟨e1, _⟩ := R5.g1
    have HE : Hid (AnsS w.heap.size ((w3.setCell ⟨w.heap.size + 1, 0, none⟩ (.slice x1 0 y1)).setCell ⟨w.heap.size + 1, 1, none⟩ (.slice x2 8 y2)) (.slice x1 0 y1) (.slice x2 8 y2) (entF t m.args)) := by
      have hz := HZ.out
      have hs := hbV.size
      exact (hans.keep (C := V.heap.size) ((Keep.set w3 (p := ⟨w.heap.size + 1, 0, none⟩) (by show _ < _; simp; omega) _).trans (Keep.set _ (p := ⟨w.heap.size + 1, 1, none⟩) (by show _ < _; simp; omega) _)) (Nat.le_refl _)).base (by omega)
    have HB : Hid (Below w.heap.size w ((w3.setCell ⟨w.heap.size + 1, 0, none⟩ (.slice x1 0 y1)).setCell ⟨w.heap.size + 1, 1, none⟩ (.slice x2 8 y2))) := ((below_over hwW hW3).setCell (p := ⟨w.heap.size + 1, 0, none⟩) (by simp) _).setCell (p := ⟨w.heap.size + 1, 1, none⟩) (by simp) _
    clear RA R5 hans hb3 hW3 v0 v1 v2 v3 hVe
    go_wp2
    refine bodyPost_ret (v := .tuple #[.agg #[.slice x1 0 y1, .slice x2 8 y2], .bool true]) (by simp [results, Tryd.results5, go_sem, e0, e1]) rfl ?_
    have h8 := ent_len (cls := t) h3
    refine ⟨.inl ⟨entF t m.args, x1, y1, x2, y2, HEN.out, ?_, ?_⟩, HB.out⟩
    · rw [h8]; rfl
    · rw [h8]; exact HE.out
  · have HEN : Hid (entryF p t name = none) := by show _ = _; unfold entryF; rw [hno]; rfl
    have hbV : Below W.heap.size W (w1.alloc (.cells #[.int .i64 0, .slice none 0 0, .int .i64 0, .slice none 0 0] 43)) := hb1.alloc hb1.size _
    have RA := R0.out.on hbV
    obtain ⟨r0, q0⟩ := RA.g0
    obtain ⟨r1, q1⟩ := RA.g1
    have R5 := (RA.s0 (.slice none 0 0)).s1 (.slice none 0 0)
    obtain ⟨e0, _⟩ := R5.g0
    obtain ⟨e1, _⟩ := R5.g1
    have HB : Hid (Below w.heap.size w (((w1.alloc (.cells #[.int .i64 0, .slice none 0 0, .int .i64 0, .slice none 0 0] 43)).setCell ⟨w.heap.size + 1, 0, none⟩ (.slice none 0 0)).setCell ⟨w.heap.size + 1, 1, none⟩ (.slice none 0 0))) := ((below_over hwW hbV).setCell (p := ⟨w.heap.size + 1, 0, none⟩) (by simp) _).setCell (p := ⟨w.heap.size + 1, 1, none⟩) (by simp) _
    clear RA R5 hb1 hbV hno
    go_wp2
    refine bodyPost_ret (v := .tuple #[.agg #[.slice none 0 0, .slice none 0 0], .bool false]) (by simp [results, Tryd.results5, go_sem, e0, e1]) rfl ?_
    exact ⟨.inr ⟨HEN.out, rfl⟩, HB.out⟩
end Pg
end Go.Proofs.YtkcbbpfclfncpaaDoor
