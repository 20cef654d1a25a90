/- Contracts of both sides' question whether a program and a class of it are right. -/
import Derived.Test.YtfdlljdljefkfaaGreatDoorJPs0
import Derived.Test.YtfdlljdljefkfaaGreatDoorJPs1
import Derived.Test.YtfdlljdljefkfaaGreatDoorJGot0
import Derived.Test.YtfdlljdljefkfaaGreatDoorJLo0
import Derived.Test.YtfdlljdljefkfaaGreatDoorJDk6
namespace Go.Proofs.YtfdlljdljefkfaaGreatDoor
namespace Pg
open Go.ChangeShapes Go.WideShapes Go.ChangeAt Go.RowKit St

def inB (p : Prg) (t : Int) : Bool := decide (0 ≤ t) && decide (t < (p.length : Int))
theorem okIn {p : Prg} {t : Int} (h : (okP p && inB p t) = true) : okP p = true ∧ 0 ≤ t ∧ t < (p.length : Int) := by
  simp only [Bool.and_eq_true, inB, decide_eq_true_eq] at h
  exact h
set_option maxHeartbeats 1000000 in
theorem isRightClass (B : Nat) (p : Prg) (a : Option Addr) (cap : Nat) (t : Int) (hsp : SmallP p) (w : World) (hp : SK front B w (.slice a p.length cap) p) :
    Calls Tryz.prog 57 #[.agg #[.slice a p.length cap], .int .i64 t] w fun e w' => e = .returned (.bool (okP p && inB p t)) ∧ Below w.heap.size w w' := by
  have HSP : Hid (SmallP p) := hsp
  have HP : Hid (SK front B w (.slice a p.length cap) p) := hp
  clear hp hsp
  obtain ⟨W, hW⟩ : ∃ W, W = w.alloc (.cells #[.slice a p.length cap] 37) := ⟨_, rfl⟩
  have hwW : Below w.heap.size w W := by rw [hW]; exact (Below.refl _ _).alloc (Nat.le_refl _) _
  have P0 : Hid (Cells W w.heap.size [.slice a p.length cap]) := by rw [hW]; exact Cells.new w _ rfl _ _
  go_enter Tryz.func57, Tryz.ntmps57
  go_wp2_with fail
  rw [← hW]
  clear hW
  refine (implProgramOk B p a cap HSP.out _ (SK.on HP.out (Keep.of hwW))).mono ?_
  rintro e w1 ⟨rfl, hb1⟩
  have hw1 : Below w.heap.size w w1 := below_over hwW hb1
  obtain ⟨q0, _⟩ := (P0.out.on hb1).g0
  clear hb1 P0
  cases hok : okP p
  · have HN : Hid ((okP p && inB p t) = false) := by show _ = _; rw [hok]; rfl
    go_wp2
    go_ret
    exact ⟨retB HN.out.symm, hw1⟩
  · have HN : Hid ((okP p && inB p t) = (decide (0 ≤ t) && decide (t < (p.length : Int)))) := by show _ = _; rw [hok]; rfl
    go_wp2_with fail
    refine (hasClass a p.length cap t _).mono ?_
    rintro e w2 ⟨rfl, hb2⟩
    have hw2 : Below w.heap.size w w2 := below_over hw1 hb2
    clear hb2 q0 hok
    generalize (decide (0 ≤ t) && decide (t < (p.length : Int))) = q at *
    go_wp2
    go_ret
    exact ⟨retB HN.out.symm, hw2⟩
set_option maxHeartbeats 1000000 in
theorem l4In (B : Nat) (p : Prg) (a : Option Addr) (cap : Nat) (t : Int) (hsp : SmallP p) (w : World) (hp : SK front B w (.slice a p.length cap) p) :
    Calls Tryz.prog 32 #[.agg #[.slice a p.length cap], .int .i64 t] w fun e w' => e = .returned (.bool (okP p && inB p t)) ∧ Below w.heap.size w w' := by
  have HSP : Hid (SmallP p) := hsp
  have HP : Hid (SK front B w (.slice a p.length cap) p) := hp
  clear hp hsp
  obtain ⟨W, hW⟩ : ∃ W, W = w.alloc (.cells #[.slice a p.length cap] 37) := ⟨_, rfl⟩
  have hwW : Below w.heap.size w W := by rw [hW]; exact (Below.refl _ _).alloc (Nat.le_refl _) _
  have P0 : Hid (Cells W w.heap.size [.slice a p.length cap]) := by rw [hW]; exact Cells.new w _ rfl _ _
  go_enter Tryz.func32, Tryz.ntmps32
  go_wp2_with fail
  rw [← hW]
  clear hW
  refine (specProgramOk B p a cap HSP.out _ (SK.on HP.out (Keep.of hwW))).mono ?_
  rintro e w1 ⟨rfl, hb1⟩
  have hw1 : Below w.heap.size w w1 := below_over hwW hb1
  obtain ⟨q0, _⟩ := (P0.out.on hb1).g0
  clear hb1 P0
  cases hok : okP p
  · have HN : Hid ((okP p && inB p t) = false) := by show _ = _; rw [hok]; rfl
    go_wp2
    go_ret
    exact ⟨retB HN.out.symm, hw1⟩
  · by_cases h0 : 0 ≤ t
    · have HN : Hid ((okP p && inB p t) = decide (t < (p.length : Int))) := by show _ = _; rw [hok]; simp [inB, h0]
      by_cases h1 : t < (p.length : Int)
      · have HX : Hid ((okP p && inB p t) = true) := by show _ = _; rw [HN.out]; simp [h1]
        go_wp2
        go_ret
        exact ⟨retB HX.out.symm, hw1⟩
      · go_wp2
        go_ret
        exact ⟨retB HN.out.symm, hw1⟩
    · have HN : Hid (inB p t = false) := by show _ = _; simp [inB, h0]
      have HM : Hid ((okP p && inB p t) = false) := by show _ = _; rw [HN.out]; simp
      clear hok
      go_wp2
      go_ret
      exact ⟨retB HM.out.symm, hw1⟩

end Pg
end Go.Proofs.YtfdlljdljefkfaaGreatDoor

/- What MethodOf answers. -/
namespace Go.Proofs.YtfdlljdljefkfaaGreatDoor
namespace Pg
open Go.ChangeShapes Go.WideShapes Go.ChangeAt Go.RowKit St

def methF (p : Prg) (t name : Int) : Option Meth := if okP p && inB p t then (match p[t.toNat]? with | none => none | some c => ownF c name) else none
theorem methF_no {p : Prg} {t name : Int} (h : (okP p && inB p t) = false) : methF p t name = none := by unfold methF; rw [h]; rfl
theorem methF_at {p : Prg} {u : Nat} {name : Int} {c : Cls} (h : okP p = true) (hu : u < p.length) (hc : p[u]? = some c) : methF p (u : Int) name = ownF c name := by
  unfold methF
  have : inB p (u : Int) = true := by simp [inB]; omega
  rw [h, this]
  simp [hc]
/-- What MethodOf answers. -/
def MPost (p : Prg) (t name : Int) (w : World) (e : Ending) (w' : World) : Prop :=
  ((∃ m x1 y1 x2 y2, methF p t name = some m ∧ e = .returned (.tuple #[.agg #[.int .i64 m.name, .slice x1 m.args.length y1, .int .i64 m.gives, .slice x2 m.code.length y2], .bool true]) ∧ AnsM w.heap.size w' (.slice x1 m.args.length y1) (.slice x2 m.code.length y2) m) ∨
   (methF p t name = none ∧ e = .returned (.tuple #[.agg #[.int .i64 0, .slice none 0 0, .int .i64 0, .slice none 0 0], .bool false]))) ∧ Below w.heap.size w w'

end Pg
end Go.Proofs.YtfdlljdljefkfaaGreatDoor

/- Contracts of the program's way to a checker, and of the state that a method begins with. -/
namespace Go.Proofs.YtfdlljdljefkfaaGreatDoor
namespace Pg
open Go.ChangeShapes Go.WideShapes Go.ChangeAt Go.RowKit St

/-- What looking for a checker answers. -/
def ChkPost (B : Nat) (p : Prg) (pv : Value) (t name : Int) (w : World) (e : Ending) (w' : World) : Prop :=
  ((∃ m xa ya xc yc, methF p t name = some m ∧ okP p = true ∧ inB p t = true ∧ m ∈ (p.getD t.toNat ⟨0, [], []⟩).meths ∧ e = .returned (.tuple #[.agg #[pv, .int .i64 t, .int .i64 m.name, .slice xa m.args.length ya, .int .i64 m.gives, .slice xc m.code.length yc], .nilIface]) ∧ MV front B w (.slice xa m.args.length ya) (.slice xc m.code.length yc) m) ∨
   (methF p t name = none ∧ ∃ s, e = .returned (.tuple #[.agg #[.slice none 0 0, .int .i64 0, .int .i64 0, .slice none 0 0, .int .i64 0, .slice none 0 0], .iface 90 (.agg #[.string s])]))) ∧ Below w.heap.size w w'

theorem Cells.g4 {w : World} {k : Nat} {a b c d e : Value} {l : List Value} (h : Cells w k (a :: b :: c :: d :: e :: l)) : w.cell? ⟨k, 4, none⟩ = some e ∧ w.frozen? ⟨k, 4, none⟩ = false := h 4 e rfl
theorem Cells.g5 {w : World} {k : Nat} {a b c d e f : Value} {l : List Value} (h : Cells w k (a :: b :: c :: d :: e :: f :: l)) : w.cell? ⟨k, 5, none⟩ = some f ∧ w.frozen? ⟨k, 5, none⟩ = false := h 5 f rfl
theorem Cells.s4 {w : World} {k : Nat} {a b c d e : Value} {l : List Value} (h : Cells w k (a :: b :: c :: d :: e :: l)) (v : Value) : Cells (w.setCell ⟨k, 4, none⟩ v) k (a :: b :: c :: d :: v :: l) := h.set 4 v
theorem Cells.s5 {w : World} {k : Nat} {a b c d e f : Value} {l : List Value} (h : Cells w k (a :: b :: c :: d :: e :: f :: l)) (v : Value) : Cells (w.setCell ⟨k, 5, none⟩ v) k (a :: b :: c :: d :: e :: v :: l) := h.set 5 v

set_option maxRecDepth 100000 in
set_option maxHeartbeats 4000000 in
theorem checkerOf_at (B : Nat) (p : Prg) (a : Option Addr) (cap : Nat) (t name : Int) (hsp : SmallP p) (w : World) (hp : SK front B w (.slice a p.length cap) p) :
    Calls Tryz.prog 44 #[.agg #[.slice a p.length cap], .int .i64 t, .int .i64 name] w fun e w' => ChkPost B p (.slice a p.length cap) t name w e w' := by
  have HSP : Hid (SmallP p) := hsp
  have HP : Hid (SK front B w (.slice a p.length cap) p) := hp
  clear hp hsp
  obtain ⟨W, hW⟩ : ∃ W, W = (w.alloc (.cells #[.slice a p.length cap] 37)).alloc (.cells #[.slice none 0 0, .int .i64 0, .int .i64 0, .slice none 0 0, .int .i64 0, .slice none 0 0] 86) := ⟨_, rfl⟩
  have hwW : Below w.heap.size w W := by rw [hW]; exact ((Below.refl _ _).alloc (Nat.le_refl _) _).alloc (by simp) _
  have P0 : Hid (Cells W w.heap.size [.slice a p.length cap]) := by rw [hW]; exact (Cells.new w _ rfl _ _).alloc _
  have R0 : Hid (Cells W (w.heap.size + 1) [.slice none 0 0, .int .i64 0, .int .i64 0, .slice none 0 0, .int .i64 0, .slice none 0 0]) := by rw [hW]; exact Cells.new (w.alloc _) _ (by simp) _ _
  have HSET : Hid (∀ u (v0 v1 v2 v3 v4 v5 : Value), Below w.heap.size w u → Below w.heap.size w ((((((u.setCell ⟨w.heap.size + 1, 0, none⟩ v0).setCell ⟨w.heap.size + 1, 1, none⟩ v1).setCell ⟨w.heap.size + 1, 2, none⟩ v2).setCell ⟨w.heap.size + 1, 3, none⟩ v3).setCell ⟨w.heap.size + 1, 4, none⟩ v4).setCell ⟨w.heap.size + 1, 5, none⟩ v5)) := fun u v0 v1 v2 v3 v4 v5 h =>
    (((((h.setCell (p := ⟨w.heap.size + 1, 0, none⟩) (by simp) _).setCell (p := ⟨w.heap.size + 1, 1, none⟩) (by simp) _).setCell (p := ⟨w.heap.size + 1, 2, none⟩) (by simp) _).setCell (p := ⟨w.heap.size + 1, 3, none⟩) (by simp) _).setCell (p := ⟨w.heap.size + 1, 4, none⟩) (by simp) _).setCell (p := ⟨w.heap.size + 1, 5, none⟩) (by simp) _
  have HCELL : Hid (∀ u (v0 v1 v2 v3 v4 v5 : Value), Below W.heap.size W u → Cells ((((((u.setCell ⟨w.heap.size + 1, 0, none⟩ v0).setCell ⟨w.heap.size + 1, 1, none⟩ v1).setCell ⟨w.heap.size + 1, 2, none⟩ v2).setCell ⟨w.heap.size + 1, 3, none⟩ v3).setCell ⟨w.heap.size + 1, 4, none⟩ v4).setCell ⟨w.heap.size + 1, 5, none⟩ v5) (w.heap.size + 1) [v0, v1, v2, v3, v4, v5]) := fun u v0 v1 v2 v3 v4 v5 h =>
    ((((((R0.out.on h).s0 v0).s1 v1).s2 v2).s3 v3).s4 v4).s5 v5
  go_enter Tryz.func44, Tryz.ntmps44
  go_wp2_with fail
  rw [← hW]
  clear hW
  refine (isRightClass B p a cap t HSP.out _ (SK.on HP.out (Keep.of hwW))).mono ?_
  rintro e w2 ⟨rfl, hW2⟩
  have hw2 : Below w.heap.size w w2 := below_over hwW hW2
  have RA := R0.out.on hW2
  cases hok2 : (okP p && inB p t)
  · have HN : Hid (methF p t name = none) := methF_no hok2
    obtain ⟨r0, q0⟩ := RA.g0
    obtain ⟨r1, q1⟩ := RA.g1
    obtain ⟨r2, q2⟩ := RA.g2
    obtain ⟨r3, q3⟩ := RA.g3
    obtain ⟨r4, q4⟩ := RA.g4
    obtain ⟨r5, q5⟩ := RA.g5
    have R5 := HCELL.out w2 (.slice none 0 0) (.int .i64 0) (.int .i64 0) (.slice none 0 0) (.int .i64 0) (.slice none 0 0) hW2
    obtain ⟨e0, _⟩ := R5.g0
    obtain ⟨e1, _⟩ := R5.g1
    obtain ⟨e2, _⟩ := R5.g2
    obtain ⟨e3, _⟩ := R5.g3
    obtain ⟨e4, _⟩ := R5.g4
    obtain ⟨e5, _⟩ := R5.g5
    have HE := HSET.out w2 (.slice none 0 0) (.int .i64 0) (.int .i64 0) (.slice none 0 0) (.int .i64 0) (.slice none 0 0) hw2
    clear R5 RA hok2 HCELL HSET
    go_wp2
    refine bodyPost_ret (v := .tuple #[.agg #[.slice none 0 0, .int .i64 0, .int .i64 0, .slice none 0 0, .int .i64 0, .slice none 0 0], .iface 90 (.agg #[.string _])]) (by simp [results, Tryz.results44, go_sem, e0, e1, e2, e3, e4, e5]; rfl) rfl ?_
    exact ⟨.inr ⟨HN.out, _, rfl⟩, HE⟩
  · obtain ⟨hok, h0, h1⟩ := okIn hok2
    have hin : inB p t = true := by simp [inB, h0, h1]
    clear hok2
    obtain ⟨u, rfl⟩ := Int.eq_ofNat_of_zero_le h0
    have hup : u < p.length := by omega
    obtain ⟨b, o, rfl, _, vf, vm, d0, d1, d2, hcv⟩ := HP.out.get hup
    obtain ⟨z1, t1, rfl⟩ := hcv.1.form
    obtain ⟨z2, t2, rfl⟩ := hcv.2.form
    have l0 : b < w.heap.size := cell_lt d0
    have c0 := (hw2.cell l0).trans d0
    have c1 := (hw2.cell l0).trans d1
    have c2 := (hw2.cell l0).trans d2
    have HM : Hid (SM front B w (.slice z2 p[u].meths.length t2) p[u].meths) := hcv.2
    have hsl : p[u].meths.length ≤ 1048576 := (HSP.out.2 _ (List.getElem_mem hup)).2.1
    have HMF : Hid (methF p (u : Int) name = ownF p[u] name) := methF_at hok hup (List.getElem?_eq_getElem hup)
    have HME : Hid (p.getD (u : Int).toNat ⟨0, [], []⟩ = p[u]) := by show _ = _; rw [Int.toNat_natCast, List.getD_eq_getElem?_getD, List.getElem?_eq_getElem hup]; rfl
    obtain ⟨p0, _⟩ := (P0.out.on hW2).g0
    have hui : (u : Int) < (p.length : Int) := by omega
    clear hcv d0 d1 d2
    generalize p[u] = C at *
    go_wp2_with fail
    refine (ownMethod B C z1 z2 t2 _ t1 name hsl w w2 hw2 HM.out).mono ?_
    rintro e w3 ⟨⟨m, va, vc, hm, hmem, rfl, hmv⟩ | ⟨hno, rfl⟩, hb3⟩
    · have HMM : Hid (methF p (u : Int) name = some m) := by show _ = _; rw [HMF.out, hm]
      obtain ⟨a1, y1, rfl⟩ := hmv.1.form
      obtain ⟨a2, y2, rfl⟩ := front.form hmv.2
      have HMV : Hid (MV front B w (.slice a1 m.args.length y1) (.slice a2 m.code.length y2) m) := hmv
      obtain ⟨V, hV⟩ : ∃ V, V = w3.alloc (.cells #[.int .i64 m.name, .slice a1 m.args.length y1, .int .i64 m.gives, .slice a2 m.code.length y2] 51) := ⟨_, rfl⟩
      have hbV : Below W.heap.size W V := by rw [hV]; exact (below_over hW2 hb3).alloc (Nat.le_trans hW2.size hb3.size) _
      have CV := Cells.new w3 _ rfl [.int .i64 m.name, .slice a1 m.args.length y1, .int .i64 m.gives, .slice a2 m.code.length y2] 51
      have PV := P0.out.on hbV
      have RV := R0.out.on hbV
      have R5 := HCELL.out V (.slice (some ⟨b, o, none⟩) p.length cap) (.int .i64 (u : Int)) (.int .i64 m.name) (.slice a1 m.args.length y1) (.int .i64 m.gives) (.slice a2 m.code.length y2) hbV
      have HE := HSET.out V (.slice (some ⟨b, o, none⟩) p.length cap) (.int .i64 (u : Int)) (.int .i64 m.name) (.slice a1 m.args.length y1) (.int .i64 m.gives) (.slice a2 m.code.length y2) (below_over hwW hbV)
      rw [hV] at PV RV R5 HE
      clear hV hbV
      obtain ⟨v0, _⟩ := CV.g0
      obtain ⟨v1, _⟩ := CV.g1
      obtain ⟨v2, _⟩ := CV.g2
      obtain ⟨v3, _⟩ := CV.g3
      obtain ⟨pp, _⟩ := PV.g0
      obtain ⟨r0, q0⟩ := RV.g0
      obtain ⟨r1, q1⟩ := RV.g1
      obtain ⟨r2, q2⟩ := RV.g2
      obtain ⟨r3, q3⟩ := RV.g3
      obtain ⟨r4, q4⟩ := RV.g4
      obtain ⟨r5, q5⟩ := RV.g5
      obtain ⟨e0, _⟩ := R5.g0
      obtain ⟨e1, _⟩ := R5.g1
      obtain ⟨e2, _⟩ := R5.g2
      obtain ⟨e3, _⟩ := R5.g3
      obtain ⟨e4, _⟩ := R5.g4
      obtain ⟨e5, _⟩ := R5.g5
      clear R5 RV PV CV HCELL HSET RA p0 c0 c1 c2 hb3 hm hmv
      go_wp2
      refine bodyPost_ret (v := .tuple #[.agg #[.slice (some ⟨b, o, none⟩) p.length cap, .int .i64 (u : Int), .int .i64 m.name, .slice a1 m.args.length y1, .int .i64 m.gives, .slice a2 m.code.length y2], .nilIface]) (by simp [results, Tryz.results44, go_sem, e0, e1, e2, e3, e4, e5]) rfl ?_
      exact ⟨.inl ⟨m, a1, y1, a2, y2, HMM.out, hok, hin, by rw [HME.out]; exact hmem, rfl, HMV.out⟩, HE⟩
    · have HMM : Hid (methF p (u : Int) name = none) := by show _ = _; rw [HMF.out, hno]
      obtain ⟨V, hV⟩ : ∃ V, V = w3.alloc (.cells #[.int .i64 0, .slice none 0 0, .int .i64 0, .slice none 0 0] 51) := ⟨_, rfl⟩
      have hbV : Below W.heap.size W V := by rw [hV]; exact (below_over hW2 hb3).alloc (Nat.le_trans hW2.size hb3.size) _
      have RV := R0.out.on hbV
      have R5 := HCELL.out V (.slice none 0 0) (.int .i64 0) (.int .i64 0) (.slice none 0 0) (.int .i64 0) (.slice none 0 0) hbV
      have HE := HSET.out V (.slice none 0 0) (.int .i64 0) (.int .i64 0) (.slice none 0 0) (.int .i64 0) (.slice none 0 0) (below_over hwW hbV)
      rw [hV] at RV R5 HE
      clear hV hbV
      obtain ⟨r0, q0⟩ := RV.g0
      obtain ⟨r1, q1⟩ := RV.g1
      obtain ⟨r2, q2⟩ := RV.g2
      obtain ⟨r3, q3⟩ := RV.g3
      obtain ⟨r4, q4⟩ := RV.g4
      obtain ⟨r5, q5⟩ := RV.g5
      obtain ⟨e0, _⟩ := R5.g0
      obtain ⟨e1, _⟩ := R5.g1
      obtain ⟨e2, _⟩ := R5.g2
      obtain ⟨e3, _⟩ := R5.g3
      obtain ⟨e4, _⟩ := R5.g4
      obtain ⟨e5, _⟩ := R5.g5
      clear R5 RV HCELL HSET RA p0 c0 c1 c2 hb3 hno
      go_wp2
      refine bodyPost_ret (v := .tuple #[.agg #[.slice none 0 0, .int .i64 0, .int .i64 0, .slice none 0 0, .int .i64 0, .slice none 0 0], .iface 90 (.agg #[.string _])]) (by simp [results, Tryz.results44, go_sem, e0, e1, e2, e3, e4, e5]; rfl) rfl ?_
      exact ⟨.inr ⟨HMM.out, _, rfl⟩, HE⟩
end Pg
end Go.Proofs.YtfdlljdljefkfaaGreatDoor
