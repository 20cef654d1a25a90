/- The laws' own comparisons of methods, and how many lines a text has. -/
import Derived.Test.YtbgbddahniacbaaGreatDoorJPs0
import Derived.Test.YtbgbddahniacbaaGreatDoorJPcm
import Derived.BigQuiet
import Derived.Test.YtbgbddahniacbaaGreatDoorJPi3
import Derived.Test.YtbgbddahniacbaaGreatDoorJPs1
namespace Go.Proofs.YtbgbddahniacbaaGreatDoor
namespace Pg
open Go.ChangeShapes Go.WideShapes Go.ChangeAt Go.RowKit St

/-- A row of numbers where there are any. -/
def RI (w : World) (a : Option Addr) (l : List Int) : Prop := 0 < l.length → ∃ g, a = some ⟨g, 0, none⟩ ∧ IRow w g 0 l
def RC (w : World) (a : Option Addr) (l : List Tx.Ins) : Prop := 0 < l.length → ∃ g, a = some ⟨g, 0, none⟩ ∧ Row w g 0 l
theorem RI.on {u w : World} {a : Option Addr} {l : List Int} (h : RI u a l) (hb : Below u.heap.size u w) : RI w a l := fun h0 => by obtain ⟨g, ha, hr⟩ := h h0; exact ⟨g, ha, hr.on hb⟩
theorem RC.on {u w : World} {a : Option Addr} {l : List Tx.Ins} (h : RC u a l) (hb : Below u.heap.size u w) : RC w a l := fun h0 => by obtain ⟨g, ha, hr⟩ := h h0; exact ⟨g, ha, hr.on hb⟩
theorem GZ.ri {B1 B2 : Nat} {w : World} {a : Option Addr} {n c : Nat} {l : List Int} (h : GZ B1 B2 w (.slice a n c) l) : RI w a l := by
  intro h0
  rcases h with ⟨g, c', hv, _, _, _, hr, _⟩ | ⟨_, rfl⟩
  · injection hv with e1 _ _
    exact ⟨g, e1, hr⟩
  · simp at h0
theorem CZ.rc {B1 B2 : Nat} {w : World} {a : Option Addr} {n c : Nat} {l : List Tx.Ins} (h : CZ B1 B2 w (.slice a n c) l) : RC w a l := by
  intro h0
  rcases h with ⟨g, c', hv, _, _, _, hr, _⟩ | ⟨_, rfl⟩
  · injection hv with e1 _ _
    exact ⟨g, e1, hr⟩
  · simp at h0
def zeroMt : Meth := ⟨0, [], 0, []⟩
/-- What MethodOf answers, in one form. -/
def MAns (p : Prg) (t name : Int) (w : World) (e : Ending) (w' : World) : Prop :=
  ∃ x1 y1 x2 y2, e = .returned (.tuple #[.agg #[.int .i64 ((methF p t name).getD zeroMt).name, .slice x1 ((methF p t name).getD zeroMt).args.length y1, .int .i64 ((methF p t name).getD zeroMt).gives, .slice x2 ((methF p t name).getD zeroMt).code.length y2], .bool (methF p t name).isSome]) ∧ RI w' x1 ((methF p t name).getD zeroMt).args ∧ RC w' x2 ((methF p t name).getD zeroMt).code ∧ Below w.heap.size w w'
theorem MPost.ans {p : Prg} {t name : Int} {w : World} {e : Ending} {w' : World} (h : MPost p t name w e w') : MAns p t name w e w' := by
  obtain ⟨⟨m, x1, y1, x2, y2, hm, he, M, _, _, hg, hc⟩ | ⟨hm, he⟩, hb⟩ := h
  · refine ⟨x1, y1, x2, y2, ?_, ?_, ?_, hb⟩
    · rw [hm]; exact he
    · rw [hm]; exact hg.ri
    · rw [hm]; exact hc.rc
  · refine ⟨none, 0, none, 0, ?_, ?_, ?_, hb⟩
    · rw [hm]; exact he
    · rw [hm]; intro h0; simp [zeroMt] at h0
    · rw [hm]; intro h0; simp [zeroMt] at h0

theorem likeIntsV (a a' : Option Addr) (c c' : Nat) (l : List Int) (hl : l.length ≤ 1048576) (w : World) (h1 : RI w a l) (h2 : RI w a' l) :
    Calls Tryz.prog 12 #[.slice a l.length c, .slice a' l.length c'] w fun e w' => e = .returned (.bool true) ∧ Below w.heap.size w w' := by
  by_cases h0 : 0 < l.length
  · obtain ⟨g, rfl, hr⟩ := h1 h0
    obtain ⟨g', rfl, hr'⟩ := h2 h0
    exact likeSame g g' c c' l hl w hr hr'
  · have e : l = [] := List.length_eq_zero_iff.1 (by omega)
    subst e
    go_enter Tryz.func12, Tryz.ntmps12
    go_wp2
    go_loopw [5] (fun i wr => i = .int .i64 0 ∧ wr = w) (fun _ _ => 0)
    case atStart => exact ⟨rfl, rfl⟩
    case round =>
      obtain ⟨rfl, rfl⟩ := hrel
      go_wp2
      go_ret
      exact ⟨rfl, Below.refl _ _⟩
set_option maxHeartbeats 1000000 in
theorem likeCodeV (a a' : Option Addr) (c c' : Nat) (l : List Tx.Ins) (hl : l.length ≤ 1048576) (w : World) (h1 : RC w a l) (h2 : RC w a' l) :
    Calls Tryz.prog 34 #[.slice a l.length c, .slice a' l.length c'] w fun e w' => e = .returned (.bool true) ∧ Below w.heap.size w w' := by
  have H1 : Hid (RC w a l) := h1
  have H2 : Hid (RC w a' l) := h2
  clear h1 h2
  go_enter Tryz.func34, Tryz.ntmps34
  go_wp2
  go_loopw [5] (fun i wr => ∃ k : Nat, k ≤ l.length ∧ i = .int .i64 k ∧ Below w.heap.size w wr) (fun i _ => l.length - (intOf i).toNat)
  case atStart => exact ⟨0, Nat.zero_le _, rfl, Below.refl _ _⟩
  case round =>
    obtain ⟨k, hk, rfl, hb⟩ := hrel
    by_cases hlt : k < l.length
    · obtain ⟨g, rfl, hr⟩ := H1.out (by omega)
      obtain ⟨g', rfl, hr'⟩ := H2.out (by omega)
      obtain ⟨a0, a1, a2⟩ := hr.on hb k _ (List.getElem?_eq_getElem hlt)
      obtain ⟨b0, b1, b2⟩ := hr'.on hb k _ (List.getElem?_eq_getElem hlt)
      generalize l[k] = x at *
      obtain ⟨op, xa, xb⟩ := x
      simp only [Nat.zero_add] at a0 a1 a2 b0 b1 b2
      have hki : (k : Int) < (l.length : Int) := by omega
      have hki0 : (0 : Int) ≤ (k : Int) := by omega
      have r0 := cell_regrown a0
      have r1 := cell_regrown a1
      have r2 := cell_regrown a2
      have s0 := cell_regrown b0
      have s1 := cell_regrown b1
      have s2 := cell_regrown b2
      clear hr hr'
      go_wp2_with fail
      refine wp_region_quiet_below (by kernel_rfl) (by kernel_rfl) ?_
      repeat (quiet_step (fail))
      refine wpQuiet_nil ?_
      intro _ hw'
      obtain ⟨⟨dq, osq⟩, hw''⟩ := hw'
      subst hw''
      have hw1 : Below w.heap.size w (Sort.grow (redrawn wr dq) osq) := below_over hb (below_regrown wr dq osq)
      clear a0 a1 a2 b0 b1 b2 r0 r1 r2 s0 s1 s2 hb
      generalize Sort.grow (redrawn wr dq) osq = w1 at *
      go_wp2
      go_roundw
      case rel => exact ⟨k + 1, by omega, by go_num, hw1⟩
      case measure => simp [intOf]; omega
    · go_wp2
      go_ret
      exact ⟨rfl, hb⟩
set_option maxHeartbeats 1000000 in
theorem likeMethodV (m : Meth) (x1 x2 x3 x4 : Option Addr) (y1 y2 y3 y4 : Nat) (hs : SmallM m) (w : World) (h1 : RI w x1 m.args) (h2 : RC w x2 m.code) (h3 : RI w x3 m.args) (h4 : RC w x4 m.code) :
    Calls Tryz.prog 11 #[.agg #[.int .i64 m.name, .slice x1 m.args.length y1, .int .i64 m.gives, .slice x2 m.code.length y2], .agg #[.int .i64 m.name, .slice x3 m.args.length y3, .int .i64 m.gives, .slice x4 m.code.length y4]] w fun e w' => e = .returned (.bool true) ∧ Below w.heap.size w w' := by
  have H1 : Hid (RI w x1 m.args) := h1
  have H2 : Hid (RC w x2 m.code) := h2
  have H3 : Hid (RI w x3 m.args) := h3
  have H4 : Hid (RC w x4 m.code) := h4
  have hs1 := hs.1
  have hs2 := hs.2
  clear h1 h2 h3 h4 hs
  have hwA : Below w.heap.size w ((w.alloc (.cells #[.int .i64 m.name, .slice x1 m.args.length y1, .int .i64 m.gives, .slice x2 m.code.length y2] 35)).alloc (.cells #[.int .i64 m.name, .slice x3 m.args.length y3, .int .i64 m.gives, .slice x4 m.code.length y4] 35)) := ((Below.refl _ _).alloc (Nat.le_refl _) _).alloc (by simp) _
  have B1 : Hid (BoxT ((w.alloc (.cells #[.int .i64 m.name, .slice x1 m.args.length y1, .int .i64 m.gives, .slice x2 m.code.length y2] 35)).alloc (.cells #[.int .i64 m.name, .slice x3 m.args.length y3, .int .i64 m.gives, .slice x4 m.code.length y4] 35)) w.heap.size 35 #[.int .i64 m.name, .slice x1 m.args.length y1, .int .i64 m.gives, .slice x2 m.code.length y2]) := (BoxT.new _ _ _).on (allocBelow _ _)
  have B2 : Hid (BoxT ((w.alloc (.cells #[.int .i64 m.name, .slice x1 m.args.length y1, .int .i64 m.gives, .slice x2 m.code.length y2] 35)).alloc (.cells #[.int .i64 m.name, .slice x3 m.args.length y3, .int .i64 m.gives, .slice x4 m.code.length y4] 35)) (w.heap.size + 1) 35 #[.int .i64 m.name, .slice x3 m.args.length y3, .int .i64 m.gives, .slice x4 m.code.length y4]) := by
    have h := BoxT.new (w.alloc (.cells #[.int .i64 m.name, .slice x1 m.args.length y1, .int .i64 m.gives, .slice x2 m.code.length y2] 35)) 35 #[.int .i64 m.name, .slice x3 m.args.length y3, .int .i64 m.gives, .slice x4 m.code.length y4]
    rw [World.size_alloc] at h
    exact h
  go_enter Tryz.func11, Tryz.ntmps11
  go_wp2_with fail
  generalize (w.alloc (.cells #[.int .i64 m.name, .slice x1 m.args.length y1, .int .i64 m.gives, .slice x2 m.code.length y2] 35)).alloc (.cells #[.int .i64 m.name, .slice x3 m.args.length y3, .int .i64 m.gives, .slice x4 m.code.length y4] 35) = W at *
  refine (likeIntsV x1 x3 y1 y3 m.args hs1 W (H1.out.on hwA) (H3.out.on hwA)).mono ?_
  rintro e w1 ⟨rfl, hb1⟩
  have hw1 : Below w.heap.size w w1 := below_over hwA hb1
  have c0 : w1.cell? ⟨w.heap.size, 2, none⟩ = some (.int .i64 m.gives) := (B1.out.on hb1).cell (i := 2) rfl
  have c1 : w1.cell? ⟨w.heap.size, 3, none⟩ = some (.slice x2 m.code.length y2) := (B1.out.on hb1).cell (i := 3) rfl
  have c2 : w1.cell? ⟨w.heap.size + 1, 2, none⟩ = some (.int .i64 m.gives) := (B2.out.on hb1).cell (i := 2) rfl
  have c3 : w1.cell? ⟨w.heap.size + 1, 3, none⟩ = some (.slice x4 m.code.length y4) := (B2.out.on hb1).cell (i := 3) rfl
  clear hb1 hwA
  go_wp2_with fail
  refine (likeCodeV x2 x4 y2 y4 m.code hs2 w1 (H2.out.on hw1) (H4.out.on hw1)).mono ?_
  rintro e w2 ⟨rfl, hb2⟩
  go_wp2
  go_ret
  exact ⟨rfl, below_over hw1 hb2⟩
set_option maxRecDepth 100000 in
set_option maxHeartbeats 1000000 in
theorem lines_len (s : ByteArray) (hs : s.size ≤ 100000) (w : World) :
    Calls Tryz.prog 19 #[.string s] w fun e w' => ∃ a c, e = .returned (.slice a (s.data.toList.count 10) c) ∧ Below w.heap.size w w' := by
  obtain ⟨i0, hi, hz0, hz1, hz2⟩ := info_parts infoS
  go_enter Tryz.func19, Tryz.ntmps19
  go_wp2
  go_loopw [3, 4, 5] (fun v f i wr => ∃ (k fr : Nat) (v0 : Value) (xs : List Value), k ≤ s.size ∧ fr ≤ k ∧ i = .int .i64 k ∧ f = .int .i64 fr ∧ v0 = v ∧ Hid (wr.ownsRow w.heap.size 9 1 v0 ((s.data.toList.take k).count 10) xs) ∧ Below w.heap.size w wr) (fun _ _ i _ => s.size - (intOf i).toNat)
  case atStart => exact ⟨0, 0, _, [], Nat.zero_le _, Nat.le_refl _, rfl, rfl, rfl, World.ownsRow_made w #[] 0 (Nat.le_refl _) (by decide) (by simp), allocBelow _ _⟩
  case round =>
    obtain ⟨k, fr, v, xs, hk, hf, rfl, rfl, rfl, hown, hb⟩ := hrel
    by_cases hlt : k < s.size
    · have hki : (k : Int) < (s.size : Int) := by omega
      have hki0 : (0 : Int) ≤ (k : Int) := by omega
      have hfk : (fr : Int) ≤ (k : Int) := by omega
      have hks : (k : Int) ≤ (s.size : Int) := by omega
      have HT : Hid (s.data.toList.take (k + 1) = s.data.toList.take k ++ [s[k]]) := by
        show _ = _
        rw [List.take_succ_eq_append_getElem (by simpa using hlt)]; rfl
      have hcl : (s.data.toList.take k).count 10 ≤ k := by
        have h1 := List.count_le_length (a := (10 : UInt8)) (l := s.data.toList.take k)
        rw [List.length_take] at h1
        omega
      by_cases hx : s[k] = 10
      · have HC : Hid ((s.data.toList.take (k + 1)).count 10 = (s.data.toList.take k).count 10 + 1) := by
          show _ = _
          rw [HT.out, hx]; simp
        have hq : ((s[k].toNat : Int) == (10 : Int)) = true := by rw [hx]; rfl
        obtain ⟨N, hN⟩ : ∃ N, N = (s.data.toList.take k).count 10 := ⟨_, rfl⟩
        rw [← hN] at hown hcl HC
        clear hN
        go_wp2_with (at_builtin; refine wpList_append_own _ rfl _ _ 46 rfl w.heap.size 9 i0 (.string ByteArray.empty) 1 16 Tryz.underlying46 hi hz0 hz1 hz2 rfl (by decide) _ _ _ rfl (hown.out.alloc _) ⟨wr.heap.size, 0, none⟩ 1 1 [.string (s.extract fr k)] rfl rfl ?c1 ?c2 ?c3 ?c4 ?c5 ?_)
        case c1 =>
          intro j u hj
          match j, hj with
          | 0, hj => simp at hj; subst hj; simp [Addr.add]
        case c2 => intro u hu; simp at hu; subst hu; rfl
        case c3 => unfold maxLen; omega
        case c4 => omega
        case c5 => have := hb.size; simp; omega
        intro v' w1 hown' hgrow _
        have hb1 : Below w.heap.size w w1 := (hb.alloc hb.size _).grown hgrow (by have := hb.size; simp; omega) (fun g hg => (hown.out.lt g hg).1)
        have HW : Hid (w1.ownsRow w.heap.size 9 1 v' ((s.data.toList.take (k + 1)).count 10) (xs ++ [.string (s.extract fr k)])) := by
          show w1.ownsRow _ _ _ _ _ _
          rw [HC.out]
          exact hown'
        clear hown' hgrow hown
        go_wp2
        go_roundw
        case rel => exact ⟨k + 1, k + 1, v', _, by omega, by omega, by go_num, by go_num, rfl, HW.out, hb1⟩
        case measure => simp [intOf]; omega
      · have HC : Hid ((s.data.toList.take (k + 1)).count 10 = (s.data.toList.take k).count 10) := by
          show _ = _
          rw [HT.out, List.count_append]
          simp [hx]
        have hq : ((s[k].toNat : Int) == (10 : Int)) = false := by
          simp only [beq_eq_false_iff_ne, ne_eq]
          intro h; apply hx; apply UInt8.toNat_inj.1; show s[k].toNat = 10; omega
        have HW : Hid (wr.ownsRow w.heap.size 9 1 v ((s.data.toList.take (k + 1)).count 10) xs) := by
          show wr.ownsRow _ _ _ _ _ _
          rw [HC.out]
          exact hown.out
        clear hown
        go_wp2
        go_roundw
        case rel => exact ⟨k + 1, fr, v, _, by omega, by omega, by go_num, rfl, rfl, HW.out, hb⟩
        case measure => simp [intOf]; omega
    · have hki : ¬ (k : Int) < (s.size : Int) := by omega
      obtain ⟨a, c, hv⟩ : ∃ a c, v = .slice a (s.data.toList.count 10) c := by
        have ho := hown.out
        rw [List.take_of_length_le (show s.data.toList.length ≤ k by simp; omega)] at ho
        obtain ⟨_, ⟨rfl, h0⟩ | ⟨g', cap', cur, rfl, _⟩⟩ := ho
        · exact ⟨none, 0, by rw [h0]⟩
        · exact ⟨_, _, rfl⟩
      clear hown
      subst hv
      go_wp2
      go_ret
      exact ⟨⟨a, c, rfl⟩, hb⟩
end Pg
end Go.Proofs.YtbgbddahniacbaaGreatDoor

/- Contracts of both sides' counting of steps. -/
namespace Go.Proofs.YtbgbddahniacbaaGreatDoor
namespace Pg
open Go.ChangeShapes Go.WideShapes Go.ChangeAt Go.RowKit St

def codeSum (ms : List Meth) : Nat := sumN (ms.map fun m => m.code.length)
def bulkN (p : Prg) : Nat := sumN (p.map fun c => codeSum c.meths)
def bulkF (p : Prg) : Int := if okP p then bulkN p else -1
theorem sumN_mono {α : Type} {f g : α → Nat} (l : List α) (h : ∀ x ∈ l, f x ≤ g x) : sumN (l.map f) ≤ sumN (l.map g) := by
  induction l with
  | nil => simp [sumN]
  | cons x l ih =>
    have h1 := h x (by simp)
    have h2 := ih (fun y hy => h y (by simp [hy]))
    simp only [sumN, List.map_cons, List.foldr_cons] at h2 ⊢
    omega
theorem codeSum_le (ms : List Meth) : codeSum ms ≤ szMs ms := by
  have := sumN_mono (f := fun m => m.code.length) (g := szM) ms (fun m _ => by unfold szM; omega)
  unfold codeSum szMs; omega
theorem bulkN_le (p : Prg) : bulkN p ≤ szP p := by
  have := sumN_mono (f := fun c => codeSum c.meths) (g := szC) p (fun c _ => by have := codeSum_le c.meths; unfold szC; omega)
  unfold bulkN szP; omega
theorem bulk_step {p : Prg} {i : Nat} (hi : i < p.length) : bulkN (p.take (i + 1)) = bulkN (p.take i) + codeSum p[i].meths := sumN_take_succ _ p i hi
theorem bulk_take (p : Prg) (i : Nat) : bulkN (p.take i) ≤ bulkN p := sumN_take_le _ p i
theorem code_step {ms : List Meth} {k : Nat} (hk : k < ms.length) : codeSum (ms.take (k + 1)) = codeSum (ms.take k) + ms[k].code.length := sumN_take_succ _ ms k hk
theorem code_take (ms : List Meth) (k : Nat) : codeSum (ms.take k) ≤ codeSum ms := sumN_take_le _ ms k

set_option maxRecDepth 100000 in
set_option maxHeartbeats 2000000 in
theorem implBulk (B : Nat) (p : Prg) (a : Option Addr) (cap : Nat) (hsz : szP p ≤ 1048576) (w : World) (hp : SK front B w (.slice a p.length cap) p) :
    Calls Tryz.prog 17 #[.agg #[.slice a p.length cap]] w fun e w' => e = .returned (.int .i64 (bulkF p)) ∧ Below w.heap.size w w' := by
  have hsp := SmallP.of hsz
  have HSP : Hid (SmallP p) := hsp
  have hpl := hsp.1
  have HP : Hid (SK front B w (.slice a p.length cap) p) := hp
  have hbu : bulkN p ≤ 1048576 := Nat.le_trans (bulkN_le p) hsz
  clear hp hsp hsz
  obtain ⟨W, hW⟩ : ∃ W, W = w.alloc (.cells #[.slice a p.length cap] 26) := ⟨_, rfl⟩
  have hwW : Below w.heap.size w W := by rw [hW]; exact (Below.refl _ _).alloc (Nat.le_refl _) _
  have P0 : Hid (Cells W w.heap.size [.slice a p.length cap]) := by rw [hW]; exact Cells.new w _ rfl _ _
  go_enter Tryz.func17, Tryz.ntmps17
  go_wp2_with fail
  rw [← hW]
  clear hW
  refine (implProgramOk B p a cap HSP.out _ (SK.on HP.out (Keep.of hwW))).mono ?_
  rintro e w1 ⟨rfl, hb1⟩
  have hw1 : Below w.heap.size w w1 := below_over hwW hb1
  obtain ⟨q0, _⟩ := (P0.out.on hb1).g0
  have hW1 : Below W.heap.size W w1 := hb1
  clear hb1
  cases hok : okP p
  · have HN : Hid (bulkF p = -1) := by show _ = _; simp [bulkF, hok]
    go_wp2
    go_ret
    exact ⟨retI HN.out.symm, hw1⟩
  · have HN : Hid (bulkF p = (bulkN p : Int)) := by show _ = _; simp [bulkF, hok]
    clear hok
    go_wp2
    clear q0
    go_loopw [3, 14] (fun s v wr => ∃ (i acc : Nat), i ≤ p.length ∧ v = .int .i64 i ∧ s = .int .i64 acc ∧ Hid (acc = bulkN (p.take i)) ∧ Below W.heap.size W wr) (fun _ v _ => p.length - (intOf v).toNat)
    case atStart => exact ⟨0, 0, Nat.zero_le _, rfl, rfl, by show _ = _; simp [bulkN, sumN], hW1⟩
    case round =>
      clear hW1 hw1
      obtain ⟨i, acc, hi, rfl, rfl, hacc, hb⟩ := hrel
      have hwr : Below w.heap.size w wr := below_over hwW hb
      by_cases hlt : i < p.length
      · have hii : (i : Int) < (p.length : Int) := by omega
        have HST : Hid (bulkN (p.take (i + 1)) = bulkN (p.take i) + codeSum p[i].meths) := bulk_step hlt
        have HTK : Hid (bulkN (p.take (i + 1)) ≤ bulkN p) := bulk_take p (i + 1)
        obtain ⟨b, o, rfl, _, vf, vm, d0, d1, d2, hcv⟩ := (SK.on HP.out (Keep.of hwr)).get hlt
        obtain ⟨z1, t1, rfl⟩ := hcv.1.form
        obtain ⟨z2, t2, rfl⟩ := hcv.2.form
        have HM : Hid (SM front B wr (.slice z2 p[i].meths.length t2) p[i].meths) := hcv.2
        have hsm := (HSP.out.2 _ (List.getElem_mem hlt)).2.1
        generalize p[i] = c at *
        clear hcv
        have HBB : Hid (Below W.heap.size W (wr.alloc (.cells #[.int .i64 c.super, .slice z1 c.fields.length t1, .slice z2 c.meths.length t2] 45))) := hb.alloc hb.size _
        have HMA : Hid (SM front B (wr.alloc (.cells #[.int .i64 c.super, .slice z1 c.fields.length t1, .slice z2 c.meths.length t2] 45)) (.slice z2 c.meths.length t2) c.meths) := SM.on HM.out (Keep.of ((Below.refl _ _).alloc (Nat.le_refl _) _))
        clear HM
        go_wp2
        generalize wr.alloc (.cells #[.int .i64 c.super, .slice z1 c.fields.length t1, .slice z2 c.meths.length t2] 45) = WC at *
        clear d0 d1 d2 hb hwr
        go_loopw [3, 21] (fun s v wm => ∃ (k ac : Nat), k ≤ c.meths.length ∧ v = .int .i64 k ∧ s = .int .i64 ac ∧ Hid (ac = bulkN (p.take i) + codeSum (c.meths.take k)) ∧ Below WC.heap.size WC wm) (fun _ v _ => c.meths.length - (intOf v).toNat)
        case atStart => exact ⟨0, acc, Nat.zero_le _, rfl, rfl, by show _ = _; rw [hacc.out]; simp [codeSum, sumN], Below.refl _ _⟩
        case round =>
          clear hacc
          obtain ⟨k, ac, hk, rfl, rfl, hac, hbm⟩ := hrel
          by_cases hkl : k < c.meths.length
          · have hki : (k : Int) < (c.meths.length : Int) := by omega
            have HCS : Hid (codeSum (c.meths.take (k + 1)) = codeSum (c.meths.take k) + c.meths[k].code.length) := code_step hkl
            have hcl : ac + c.meths[k].code.length ≤ 1048576 := by
              have h1 := HCS.out
              have h2 := code_take c.meths (k + 1)
              have h3 := hac.out
              have h4 := HST.out
              have h5 := HTK.out
              omega
            obtain ⟨bm, om, rfl, _, va, vc, m0, m1, m2, m3, hmv⟩ := (SM.on HMA.out (Keep.of hbm)).get hkl
            obtain ⟨x1, y1, rfl⟩ := hmv.1.form
            obtain ⟨x2, y2, rfl⟩ := front.form hmv.2
            generalize c.meths[k] = m at *
            clear hmv
            have HBM : Hid (Below WC.heap.size WC (wr.alloc (.cells #[.int .i64 m.name, .slice x1 m.args.length y1, .int .i64 m.gives, .slice x2 m.code.length y2] 35))) := hbm.alloc hbm.size _
            clear hbm
            go_wp2
            go_roundw
            case rel => exact ⟨k + 1, ac + m.code.length, by omega, by go_num, by go_num, by show _ = _; rw [hac.out, HCS.out]; omega, HBM.out⟩
            case measure => simp [intOf]; omega
          · have HA2 : Hid (ac = bulkN (p.take (i + 1))) := by
              show _ = _
              have h := hac.out
              rw [show c.meths.take k = c.meths from List.take_of_length_le (by omega)] at h
              rw [HST.out]; exact h
            have HB2 : Below W.heap.size W wr := below_over HBB.out hbm
            go_wp2
            go_roundw
            case rel => exact ⟨i + 1, ac, by omega, by go_num, rfl, HA2.out, HB2⟩
            case measure => simp [intOf]; omega
      · have HX : Hid (bulkF p = (acc : Int)) := by
          show _ = _
          have h := hacc.out
          rw [List.take_of_length_le (by omega)] at h
          rw [HN.out, h]
        go_wp2
        go_ret
        exact ⟨retI HX.out.symm, hwr⟩

set_option maxRecDepth 100000 in
set_option maxHeartbeats 2000000 in
theorem l4Bulk (B : Nat) (p : Prg) (a : Option Addr) (cap : Nat) (hsz : szP p ≤ 1048576) (w : World) (hp : SK front B w (.slice a p.length cap) p) :
    Calls Tryz.prog 42 #[.agg #[.slice a p.length cap]] w fun e w' => e = .returned (.int .i64 (bulkN p)) ∧ Below w.heap.size w w' := by
  have hsp := SmallP.of hsz
  have HSP : Hid (SmallP p) := hsp
  have hpl := hsp.1
  have HP : Hid (SK front B w (.slice a p.length cap) p) := hp
  have hbu : bulkN p ≤ 1048576 := Nat.le_trans (bulkN_le p) hsz
  clear hp hsp hsz
  obtain ⟨W, hW⟩ : ∃ W, W = w.alloc (.cells #[.slice a p.length cap] 26) := ⟨_, rfl⟩
  have hwW : Below w.heap.size w W := by rw [hW]; exact (Below.refl _ _).alloc (Nat.le_refl _) _
  have P0 : Hid (Cells W w.heap.size [.slice a p.length cap]) := by rw [hW]; exact Cells.new w _ rfl _ _
  go_enter Tryz.func42, Tryz.ntmps42
  go_wp2
  rw [← hW]
  clear hW
  go_loopw [3, 4] (fun s v wr => ∃ (i acc : Nat), i ≤ p.length ∧ v = .int .i64 i ∧ s = .int .i64 acc ∧ Hid (acc = bulkN (p.take i)) ∧ Below W.heap.size W wr) (fun _ v _ => p.length - (intOf v).toNat)
  case atStart => exact ⟨0, 0, Nat.zero_le _, rfl, rfl, by show _ = _; simp [bulkN, sumN], Below.refl _ _⟩
  case round =>
    obtain ⟨i, acc, hi, rfl, rfl, hacc, hb⟩ := hrel
    have hwr : Below w.heap.size w wr := below_over hwW hb
    obtain ⟨q0, _⟩ := (P0.out.on hb).g0
    by_cases hlt : i < p.length
    · have hii : (i : Int) < (p.length : Int) := by omega
      have HST : Hid (bulkN (p.take (i + 1)) = bulkN (p.take i) + codeSum p[i].meths) := bulk_step hlt
      have HTK : Hid (bulkN (p.take (i + 1)) ≤ bulkN p) := bulk_take p (i + 1)
      obtain ⟨b, o, rfl, _, vf, vm, e0, e1, e2, hcv⟩ := HP.out.get hlt
      obtain ⟨z2, t2, rfl⟩ := hcv.2.form
      have HM : Hid (SM front B w (.slice z2 p[i].meths.length t2) p[i].meths) := hcv.2
      have hsm := (HSP.out.2 _ (List.getElem_mem hlt)).2.1
      have lb : b < w.heap.size := cell_lt e0
      have E2 : Hid (w.cell? ⟨b, o + i * 3 + 2, none⟩ = some (.slice z2 p[i].meths.length t2)) := e2
      generalize p[i] = c at *
      clear hcv e0 e1 e2
      go_wp2
      clear q0
      go_loopw [3, 5] (fun s v wm => ∃ (k ac : Nat), k ≤ c.meths.length ∧ v = .int .i64 k ∧ s = .int .i64 ac ∧ Hid (ac = bulkN (p.take i) + codeSum (c.meths.take k)) ∧ Below W.heap.size W wm) (fun _ v _ => c.meths.length - (intOf v).toNat)
      case atStart => exact ⟨0, acc, Nat.zero_le _, rfl, rfl, by show _ = _; rw [hacc.out]; simp [codeSum, sumN], hb⟩
      case round =>
        clear hacc hb hwr
        obtain ⟨k, ac, hk, rfl, rfl, hac, hbm⟩ := hrel
        have hwm : Below w.heap.size w wr := below_over hwW hbm
        obtain ⟨q0, _⟩ := (P0.out.on hbm).g0
        have q2 := (hwm.cell lb).trans E2.out
        by_cases hkl : k < c.meths.length
        · have hki : (k : Int) < (c.meths.length : Int) := by omega
          have HCS : Hid (codeSum (c.meths.take (k + 1)) = codeSum (c.meths.take k) + c.meths[k].code.length) := code_step hkl
          have hcl : ac + c.meths[k].code.length ≤ 1048576 := by
            have h1 := HCS.out
            have h2 := code_take c.meths (k + 1)
            have h3 := hac.out
            have h4 := HST.out
            have h5 := HTK.out
            omega
          obtain ⟨bm, om, rfl, _, va, vc, m0, m1, m2, m3, hmv⟩ := (SM.on HM.out (Keep.of hwm)).get hkl
          obtain ⟨x2, y2, rfl⟩ := front.form hmv.2
          generalize c.meths[k] = m at *
          clear hmv
          go_wp2
          go_roundw
          case rel => exact ⟨k + 1, ac + m.code.length, by omega, by go_num, by go_num, by show _ = _; rw [hac.out, HCS.out]; omega, hbm⟩
          case measure => simp [intOf]; omega
        · have HA2 : Hid (ac = bulkN (p.take (i + 1))) := by
            show _ = _
            have h := hac.out
            rw [show c.meths.take k = c.meths from List.take_of_length_le (by omega)] at h
            rw [HST.out]; exact h
          go_wp2
          go_roundw
          case rel => exact ⟨i + 1, ac, by omega, by go_num, rfl, HA2.out, hbm⟩
          case measure => simp [intOf]; omega
    · have HX : Hid ((bulkN p : Int) = (acc : Int)) := by
        show _ = _
        have h := hacc.out
        rw [List.take_of_length_le (by omega)] at h
        rw [h]
      go_wp2
      go_ret
      exact ⟨retI HX.out.symm, hwr⟩

set_option maxHeartbeats 1000000 in
theorem specBulk (B : Nat) (p : Prg) (a : Option Addr) (cap : Nat) (hsz : szP p ≤ 1048576) (w : World) (hp : SK front B w (.slice a p.length cap) p) :
    Calls Tryz.prog 18 #[.agg #[.slice a p.length cap]] w fun e w' => e = .returned (.int .i64 (bulkF p)) ∧ Below w.heap.size w w' := by
  have HSP : Hid (SmallP p) := SmallP.of hsz
  have HSZ : Hid (szP p ≤ 1048576) := hsz
  have HP : Hid (SK front B w (.slice a p.length cap) p) := hp
  clear hp hsz
  obtain ⟨W, hW⟩ : ∃ W, W = w.alloc (.cells #[.slice a p.length cap] 26) := ⟨_, rfl⟩
  have hwW : Below w.heap.size w W := by rw [hW]; exact (Below.refl _ _).alloc (Nat.le_refl _) _
  have P0 : Hid (Cells W w.heap.size [.slice a p.length cap]) := by rw [hW]; exact Cells.new w _ rfl _ _
  go_enter Tryz.func18, Tryz.ntmps18
  go_wp2_with fail
  rw [← hW]
  clear hW
  refine (specProgramOk B p a cap HSP.out _ (SK.on HP.out (Keep.of hwW))).mono ?_
  rintro e w1 ⟨rfl, hb1⟩
  have hw1 : Below w.heap.size w w1 := below_over hwW hb1
  obtain ⟨q0, _⟩ := (P0.out.on hb1).g0
  clear hb1
  cases hok : okP p
  · have HN : Hid (bulkF p = -1) := by show _ = _; simp [bulkF, hok]
    go_wp2
    go_ret
    exact ⟨retI HN.out.symm, hw1⟩
  · have HN : Hid (bulkF p = (bulkN p : Int)) := by show _ = _; simp [bulkF, hok]
    clear hok
    go_wp2_with fail
    refine (l4Bulk B p a cap HSZ.out _ (SK.on HP.out (Keep.of hw1))).mono ?_
    rintro e w2 ⟨rfl, hb2⟩
    have hw2 : Below w.heap.size w w2 := below_over hw1 hb2
    clear hb2 q0
    go_wp2
    go_ret
    exact ⟨retI HN.out.symm, hw2⟩
end Pg
end Go.Proofs.YtbgbddahniacbaaGreatDoor
