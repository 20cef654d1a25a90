/- The contract of the draw of a program. -/
import Derived.Test.YtbgbddahniacbaaGreatDoorJDq1
import Derived.Deep.RegionLaw
import Derived.Deep.RegionHeld3
import Derived.Deep.CutRange
import Derived.Deep.DeepCutAuto
namespace Go.Proofs.YtbgbddahniacbaaGreatDoor
namespace Pg
open Go.ChangeShapes Go.WideShapes Go.ChangeAt Go.RowKit St

set_option maxHeartbeats 400000 in
theorem from_at (B c : Nat) (w0 w : World) (a : Option Addr) (len cap : Nat) (lo hi : Int) (hl0 : -100 ≤ lo) (hl1 : lo ≤ 100) (hh0 : -100 ≤ hi) (hh1 : hi ≤ 100) (h : Cu.At B w0 w c a len cap) :
    Calls Tryz.prog 22 #[.pointer (some ⟨c, 0, none⟩), .int .i64 lo, .int .i64 hi] w fun e w' => ∃ r : Int, e = .returned (.int .i64 r) ∧ lo ≤ r ∧ (r ≤ hi ∨ r = lo) ∧ r ≤ 300 ∧ Cu.At B w0 w' c a len cap := by
  have hw1 : IntKind.i64.wrap (hi - lo) = hi - lo := by simp [IntKind.wrap, IntKind.signed, IntKind.bits]; omega
  have hw2 : IntKind.i64.wrap (hi - lo + 1) = hi - lo + 1 := by simp [IntKind.wrap, IntKind.signed, IntKind.bits]; omega
  go_enter Tryz.func22, Tryz.ntmps22
  go_wp2_with fail
  refine (Cu.below_at B c w0 _ a len cap (hi - lo + 1) h).mono ?_
  rintro e w1 ⟨r, rfl, hr0, hr1, hr2, hr3, h1⟩
  have hr4 : -100 ≤ lo + r := by omega
  have hr5 : r ≤ 300 := by
    by_cases h0 : 0 < hi - lo + 1
    · have := hr2 h0; omega
    · have := hr3 (by omega); omega
  have hw3 : IntKind.i64.wrap (lo + r) = lo + r := by simp [IntKind.wrap, IntKind.signed, IntKind.bits]; omega
  have HB : Hid (lo + r ≤ hi ∨ lo + r = lo) := by
    show _ ∨ _
    by_cases h0 : 0 < hi - lo + 1
    · have := hr2 h0; exact .inl (by omega)
    · have := hr3 (by omega); exact .inr (by omega)
  have HC : Hid (lo + r ≤ 300) := by
    show _ ≤ _
    have := HB.out
    omega
  clear hr2 hr3
  go_wp2
  go_ret
  exact ⟨lo + r, rfl, by omega, HB.out, HC.out, h1⟩

theorem cell_four_new (w : World) (p q r v : Value) (t : TypeId) : ∀ (j : Nat) (u : Value), [p, q, r, v][j]? = some u → (w.alloc (.cells #[p, q, r, v] t)).cell? ((⟨w.heap.size, 0, none⟩ : Addr).add j) = some u := fun j u hu => by
  rw [Go.WideShapes.add_plain, Nat.zero_add]
  exact (Cells.new w _ rfl [p, q, r, v] t j u hu).1
theorem cell_three_new (w : World) (p q r : Value) (t : TypeId) : ∀ (j : Nat) (u : Value), [p, q, r][j]? = some u → (w.alloc (.cells #[p, q, r] t)).cell? ((⟨w.heap.size, 0, none⟩ : Addr).add j) = some u := fun j u hu => by
  rw [Go.WideShapes.add_plain, Nat.zero_add]
  exact (Cells.new w _ rfl [p, q, r] t j u hu).1
theorem own_more {w : World} {B q n : Nat} {e : TypeId} {v : Value} {xs : List Value} (h : w.ownsRow B e q v (n + 1) xs) : ∃ g cap, v = .slice (some ⟨g, 0, none⟩) (n + 1) cap := by
  obtain ⟨_, ⟨_, hn⟩ | ⟨g, cap, _, hv, _⟩⟩ := h
  · omega
  · exact ⟨g, cap, hv⟩
def FewM (m : Meth) : Prop := m.args.length ≤ 3 ∧ m.code.length ≤ 42
/-- So much a class under way has at least, and at most. -/
def Few (lo hi f : Nat) (c : Cls) : Prop := lo ≤ c.meths.length ∧ c.meths.length ≤ hi ∧ c.fields.length ≤ f ∧ ∀ m ∈ c.meths, FewM m
theorem few_nil {sp : Int} {fs : List Int} (h : fs.length ≤ 1) : Few 0 0 1 ⟨sp, fs, []⟩ := ⟨Nat.le_refl _, Nat.le_refl _, h, fun m hm => by simp at hm⟩
theorem few_snoc {lo hi f : Nat} {c : Cls} {m : Meth} (h : Few lo hi f c) (hm : FewM m) : Few (lo + 1) (hi + 1) f { c with meths := c.meths ++ [m] } := by
  obtain ⟨h1, h2, h3, h4⟩ := h
  refine ⟨by simp; omega, by simp; omega, h3, fun x hx => ?_⟩
  rcases List.mem_append.1 hx with hx | hx
  · exact h4 x hx
  · simp at hx; subst hx; exact hm
theorem Few.wide {lo hi f lo' hi' f' : Nat} {c : Cls} (h : Few lo hi f c) (h1 : lo' ≤ lo) (h2 : hi ≤ hi') (h3 : f ≤ f') : Few lo' hi' f' c := ⟨Nat.le_trans h1 h.1, Nat.le_trans h.2.1 h2, Nat.le_trans h.2.2.1 h3, h.2.2.2⟩
/-- A program under way, its result's box, a class of it under way, and the cursor. -/
structure ST (B : Nat) (w0 : World) (cu : Nat) (a : Option Addr) (len cap pb T xb : Nat) (cs : Prg) (c : Cls) (u : World) : Prop where
  pc : PC pb T u cs
  xc : XC xb u c
  le : T ≤ xb
  at' : Cu.At B w0 u cu a len cap
  rb : Cells u w0.heap.size [.slice none 0 0]
  lo : w0.heap.size < pb
  cw : cu < w0.heap.size
theorem PC.pb {pb T : Nat} {w : World} {cs : Prg} (h : PC pb T w cs) : pb < T := h.2.elim fun _ h => h.elim fun _ h => h.elim fun _ h => h.2.2.1
/-- Nothing ahead of the class's box has turned. -/
theorem ST.next {B : Nat} {w0 : World} {cu : Nat} {a : Option Addr} {len cap pb T xb : Nat} {cs : Prg} {c c' : Cls} {u u' : World} (h : ST B w0 cu a len cap pb T xb cs c u) (hx : XC xb u' c') (hb : Below xb u u') : ST B w0 cu a len cap pb T xb cs c' u' := by
  have h1 := h.pc.pb
  have h2 := h.le
  have h3 := h.lo
  refine ⟨h.pc.same ⟨hb.size, fun k _ b => hb.block k (by omega)⟩, hx, h.le, h.at'.low h.cw (hb.mono (by omega)), cells_move h.rb (hb.block _ (by omega)), h.lo, h.cw⟩
theorem ST.touch {B : Nat} {w0 : World} {cu : Nat} {a : Option Addr} {len cap pb T xb : Nat} {cs : Prg} {c : Cls} {u u' : World} (h : ST B w0 cu a len cap pb T xb cs c u) (ha : Cu.At B u u' cu a len cap) : ST B w0 cu a len cap pb T xb cs c u' := by
  have h1 := h.pc.pb
  have h2 := h.le
  have h3 := h.lo
  have h4 := h.cw
  exact ⟨h.pc.same (Same.touch ha.1 (by omega) h.pc.1), h.xc.same (Same.touch ha.1 (by omega) (Nat.le_refl _)), h.le, h.at'.step ha, Cu.cells_touch h.rb ha.1 (by omega), h.lo, h.cw⟩
theorem ST.drew {B : Nat} {w0 : World} {cu : Nat} {a : Option Addr} {len cap pb T xb : Nat} {cs : Prg} {c : Cls} {u : World} (h : ST B w0 cu a len cap pb T xb cs c u) : ST B w0 cu a len cap pb T xb cs c u.drew := h.touch ⟨(Cu.Touch.refl _ _).drew, h.at'.2⟩
theorem ST.cur {B : Nat} {w0 : World} {cu : Nat} {a : Option Addr} {len cap pb T xb : Nat} {cs : Prg} {c : Cls} {u : World} (h : ST B w0 cu a len cap pb T xb cs c u) : Cu.Cur B u cu a len cap := h.at'.2
theorem stepAppAt {P : Program} (w : World) {ops : Array Oper} {o : Oper} {a : Act} {K : Act → World → Prop} {Q : Exit → Act → World → Prop} {E : Prop} (hgd : o.guard = none) (s x : Operand) (t : TypeId)
    (ho : o.op = .call { callee := .builtin .append, args := #[s, x], argTypes := #[t, t] })
    (base : Nat) (e : TypeId) (i : TypeInfo) (z : Value) (size bytes : Nat) (ht : P.underlying t = some (.slice e)) (hi : P.info? e = some i) (hz : i.zero = some z)
    (hsize : i.size = size) (hby : i.bytes = bytes) (hzs : z.cells.size = size) (hsz : 0 < size)
    (v : Value) (n : Nat) (xs : List Value) (hs : a.eval s = v) (hown : w.ownsRow base e size v n xs)
    (ad : Addr) (m c : Nat) (news : List Value) (hx : a.eval x = .slice (some ad) m c) (hl : news.length = m * size) (hnews : ∀ j u, news[j]? = some u → w.cell? (ad.add j) = some u) (h1 : ∀ u ∈ news, u.oneCell' = true)
    (h63 : n + m ≤ maxLen) (hbytes : (n + m) * bytes ≤ 140737488355328) (hbase : base ≤ w.heap.size)
    (h : ∀ v' w', w'.ownsRow base e size v' (n + m) (xs ++ news) → w.grownBy w' v.ownBlock → (v' = .slice none 0 0 ↔ v = .slice none 0 0 ∧ m = 0) → (v'.ownBlock = v.ownBlock ∨ v'.ownBlock = some w.heap.size) → K (a.put o.dst v') w') :
    if Region.wanted o (yielded ops a.tmps) = true then Oper.wp P o a w K Q else E := by
  have hw : Region.wanted o (yielded ops a.tmps) = true := by simp [Region.wanted, hgd]
  rw [if_pos hw]
  obtain ⟨v', w', hr, h2, h3, h4, h5⟩ := run_append_own_at (P := P) w base t o.type e i z size bytes ht hi hz hsize hby hzs hsz v n xs hown ad m c news hl hnews h1 h63 hbytes hbase
  unfold Oper.wp
  simp [execOp, ho, resolve, invoke, builtin, hs, hx, hr, Result.andThen]
  exact h v' w' h2 h3 h4 h5
/-- Each class that stands has methods enough. -/
def Stand (cs : Prg) : Prop := ∀ j c, cs[j]? = some c → Few (if j = 0 then 2 else 1) 3 2 c
/-- A program has been drawn, and the cursor stands. -/
def DrewP (B : Nat) (w : World) (c : Nat) (a : Option Addr) (len cap : Nat) (e : Ending) (w' : World) : Prop :=
  ∃ (g cp lo T : Nat) (l : List (Cls × Value × Value)) (W : Nat → Nat × Nat), e = .returned (.agg #[.slice (some ⟨g, 0, none⟩) l.length cp]) ∧ w.heap.size ≤ lo ∧ 1 ≤ l.length ∧ l.length ≤ 4 ∧ Stand (l.map (·.1)) ∧ w'.ownsRow lo 45 3 (.slice (some ⟨g, 0, none⟩) l.length cp) l.length (flatK l) ∧ KD lo T (.slice (some ⟨g, 0, none⟩) l.length cp) w' l W ∧ T ≤ w'.heap.size ∧ Cu.At B w w' c a len cap

/-- A method is drawn while a class is under way. -/
theorem meth_st {B : Nat} {w0 : World} {cu : Nat} {a : Option Addr} {len cap pb T s : Nat} {cs : Prg} {cl : Cls} {u u' : World} {vf vm : Value} {l : List (Meth × Value × Value)} (name n : Int) (q : Bool) (h1 : 1 ≤ n) (h2 : n ≤ 5)
    (h : ST B w0 cu a len cap pb T s cs cl u) (hx : XP s u cl vf vm l) (hu : Cu.At B u u' cu a len cap) :
    Calls Tryz.prog 62 #[.pointer (some ⟨cu, 0, none⟩), .int .i64 name, .bool q, .int .i64 n] u' fun e u2 => ∃ gc yc lc, e = .returned (.agg #[.int .i64 name, .slice none 0 0, .int .i64 (-1), .slice (some ⟨gc, 0, none⟩) lc.length yc]) ∧ lc.length ≤ 42 ∧ Hid (ST B w0 cu a len cap pb T s cs cl u2) ∧ Hid (XP s u2 cl vf vm l) ∧ Hid (MV front u'.heap.size u2 (.slice none 0 0) (.slice (some ⟨gc, 0, none⟩) lc.length yc) ⟨name, [], -1, lc⟩) := by
  refine (Cu.drawMethod_cur B cu name n q h1 h2 u' a len cap hu.2).mono ?_
  rintro e u2 ⟨gc, yc, lc, rfl, hcs2, hl42, _, hat2⟩
  have h3 := h.cw
  have h4 := h.lo
  have h5 := h.le
  have h6 := h.pc.pb
  refine ⟨gc, yc, lc, rfl, hl42, (h.touch hu).touch hat2, (hx.same (Same.touch hu.1 (by omega) (Nat.le_refl _))).same (Same.touch hat2.1 (by omega) (Nat.le_refl _)), SI.nil _ _ _, hcs2⟩
theorem from_st {B : Nat} {w0 : World} {cu : Nat} {a : Option Addr} {len cap pb T s : Nat} {cs : Prg} {cl : Cls} {u u' : World} {vf vm : Value} {l : List (Meth × Value × Value)} (lo hi : Int) (hl0 : -100 ≤ lo) (hl1 : lo ≤ 100) (hh0 : -100 ≤ hi) (hh1 : hi ≤ 100)
    (h : ST B w0 cu a len cap pb T s cs cl u) (hx : XP s u cl vf vm l) (hu : Cu.At B u u' cu a len cap) :
    Calls Tryz.prog 22 #[.pointer (some ⟨cu, 0, none⟩), .int .i64 lo, .int .i64 hi] u' fun e u2 => ∃ r : Int, e = .returned (.int .i64 r) ∧ Hid (ST B w0 cu a len cap pb T s cs cl u2) ∧ Hid (XP s u2 cl vf vm l) := by
  refine (from_at B cu u u' a len cap lo hi hl0 hl1 hh0 hh1 hu).mono ?_
  rintro e u2 ⟨r, rfl, _, _, _, hat2⟩
  have h3 := h.cw
  have h4 := h.lo
  have h5 := h.le
  have h6 := h.pc.pb
  exact ⟨r, rfl, h.touch hat2, hx.same (Same.touch hat2.1 (by omega) (Nat.le_refl _))⟩
theorem once_st {B : Nat} {w0 : World} {cu : Nat} {a : Option Addr} {len cap pb T s : Nat} {cs : Prg} {cl : Cls} {u u' : World} {vf vm : Value} {l : List (Meth × Value × Value)} (n : Int)
    (h : ST B w0 cu a len cap pb T s cs cl u) (hx : XP s u cl vf vm l) (hu : Cu.At B u u' cu a len cap) :
    Calls Tryz.prog 44 #[.pointer (some ⟨cu, 0, none⟩), .int .i64 n] u' fun e u2 => ∃ r : Bool, e = .returned (.bool r) ∧ Hid (ST B w0 cu a len cap pb T s cs cl u2) ∧ Hid (XP s u2 cl vf vm l) := by
  refine (Cu.once_at B cu u u' a len cap n hu).mono ?_
  rintro e u2 ⟨r, rfl, hat2⟩
  have h3 := h.cw
  have h4 := h.lo
  have h5 := h.le
  have h6 := h.pc.pb
  exact ⟨r, rfl, h.touch hat2, hx.same (Same.touch hat2.1 (by omega) (Nat.le_refl _))⟩
theorem few_field {lo hi f : Nat} {c : Cls} (h : Few lo hi f c) (x : Int) : Few lo hi (f + 1) { c with fields := c.fields ++ [x] } := ⟨h.1, h.2.1, by have := h.2.2.1; simp; omega, h.2.2.2⟩
/-- Where a method of a class that stands lies. -/
theorem PC.meth {pb T : Nat} {w : World} {cs : Prg} (h : PC pb T w cs) {j k : Nat} {cj : Cls} {m : Meth} (hj : cs[j]? = some cj) (hk : cj.meths[k]? = some m) :
    ∃ g cp b o d va vc, w.cell? ⟨pb, 0, none⟩ = some (.slice (some ⟨g, 0, none⟩) cs.length cp) ∧ w.cell? ⟨g, j * 3 + 2, none⟩ = some (.slice (some ⟨b, o, none⟩) cj.meths.length d) ∧
      (w.cell? ⟨b, o + k * 4, none⟩ = some (.int .i64 m.name) ∧ w.cell? ⟨b, o + k * 4 + 1, none⟩ = some va ∧ w.cell? ⟨b, o + k * 4 + 2, none⟩ = some (.int .i64 m.gives) ∧ w.cell? ⟨b, o + k * 4 + 3, none⟩ = some vc) ∧ MV front (pb + 1) w va vc m := by
  obtain ⟨h0, v, l, W, e, h1, h2, h3, h4, h5⟩ := h
  obtain ⟨x, hx⟩ : ∃ x, l[j]? = some x := by
    rw [← e, List.getElem?_map] at hj
    cases hq : l[j]? with
    | none => rw [hq] at hj; simp at hj
    | some x => exact ⟨x, rfl⟩
  have hxm : x.1 = cj := by rw [← e, List.getElem?_map, hx] at hj; simpa using hj
  have hcv := h5.cv j x hx
  have hn : 0 < cs.length := by have := (List.getElem?_eq_some_iff.1 hj).1; omega
  have h3' := h3
  obtain ⟨hl, ⟨hv, hz⟩ | ⟨g, cap, cur, hv, hB, hblk, hle, hmx, hsz, htk⟩⟩ := h3
  · omega
  · subst hxm
    obtain ⟨am, dm, hm2⟩ := hcv.2.form
    have hkl := (List.getElem?_eq_some_iff.1 hk).1
    have hsm := hcv.2
    rw [hm2] at hsm
    obtain ⟨b, o, rfl, _, va, vc, a0, a1, a2, a3, hmv⟩ := hsm.get hkl
    have hmk : x.1.meths[k] = m := (List.getElem?_eq_some_iff.1 hk).2
    rw [hmk] at a0 a2 hmv
    have hc := World.ownsRow.cells h3' (g := g) (by rw [hv]; rfl) (j * 3 + 2) _ (flatK_at l j x hx).2.2
    rw [Go.WideShapes.add_plain, Nat.zero_add, hm2] at hc
    refine ⟨g, cap, b, o, dm, va, vc, ?_, hc, ⟨a0, a1, a2, a3⟩, hmv⟩
    rw [← hv]; exact h1.g0.1
/-- A method is copied while a class is under way. -/
theorem copy_st {B : Nat} {w0 : World} {cu : Nat} {a : Option Addr} {len cap pb T s : Nat} {cs : Prg} {cl : Cls} {u : World} {vf vm va vc : Value} {l : List (Meth × Value × Value)} {m : Meth} (hm : FewM m) (h : ST B w0 cu a len cap pb T s cs cl u) (hx : XP s u cl vf vm l) (hv : MV front (pb + 1) u va vc m) :
    Calls Tryz.prog 33 #[.agg #[.int .i64 m.name, va, .int .i64 m.gives, vc]] u fun e u2 => ∃ x1 y1 x2 y2, e = .returned (.agg #[.int .i64 m.name, .slice x1 m.args.length y1, .int .i64 m.gives, .slice x2 m.code.length y2]) ∧ Hid (ST B w0 cu a len cap pb T s cs cl u2) ∧ Hid (XP s u2 cl vf vm l) ∧ Hid (MV front u.heap.size u2 (.slice x1 m.args.length y1) (.slice x2 m.code.length y2) m) := by
  have h1 := hm.1
  have h2 := hm.2
  refine (l4Copy (pb + 1) m va vc ⟨by omega, by omega⟩ u hv).mono ?_
  rintro e u2 ⟨x1, y1, x2, y2, rfl, ⟨M, _, _, hgz, _⟩, hb, hcs⟩
  refine ⟨x1, y1, x2, y2, rfl, h.touch ⟨Cu.touch_below hb, h.at'.2.later hb h.at'.2.2.1⟩, hx.same (Same.on hb (Nat.le_refl _)), hgz.si, hcs⟩
theorem few_if {i : Nat} (hi : i ≠ 0) {hi' f : Nat} {c : Cls} (h : Few ((if i = 0 then 1 else 0) + 1) hi' f c) : Few (if i = 0 then 2 else 1) hi' f c := by
  rw [if_neg hi] at h ⊢; exact h
theorem few_only {lo hi f : Nat} {c : Cls} {m : Meth} (h : Few lo hi f c) (hm : FewM m) : Few 1 2 f { c with meths := [m] } := ⟨by simp, by simp, h.2.2.1, fun x hx => by simp at hx; subst hx; exact hm⟩
theorem si_lit {B : Nat} {w : World} {l : List Int} {cap : Nat} (hB : B ≤ w.heap.size) (cs : Array Value) (hcs : cs = (nums l).toArray) (t : TypeId) : SI true B (w.alloc (.cells cs t)) (.slice (some ⟨w.heap.size, 0, none⟩) l.length cap) l := by
  have hc := Cells.new w _ rfl (nums l) t
  rw [← hcs] at hc
  refine SI.row hB (by simp) (fun j x hj => ?_) (fun j hj => ?_)
  · rw [Nat.zero_add]; exact (hc j (.int .i64 x) (by simp [nums, hj])).1
  · obtain ⟨h1, h2⟩ := hc j (.int .i64 l[j]) (by simp [nums, hj])
    exact ⟨⟨_, h1⟩, h2⟩
theorem stand_snoc {cs : Prg} {cl : Cls} {i : Nat} (h : Stand cs) (hi : cs.length = i) (hc : Few (if i = 0 then 2 else 1) 3 2 cl) : Stand (cs ++ [cl]) := fun j c hj => by
  by_cases hl : j < cs.length
  · rw [List.getElem?_append_left hl] at hj; exact h j c hj
  · have hje : j = cs.length := by have := (List.getElem?_eq_some_iff.1 hj).1; simp at this; omega
    subst hje
    have : c = cl := by simpa using hj.symm
    subst this
    rw [hi]; exact hc
theorem infoM : (Tryz.prog.info? 35).map (fun i => (i.zero, i.size, i.bytes)) = some (some (.agg #[.int .i64 0, .slice none 0 0, .int .i64 0, .slice none 0 0]), 4, 64) := by kernel_rfl
theorem infoK : (Tryz.prog.info? 45).map (fun i => (i.zero, i.size, i.bytes)) = some (some (.agg #[.int .i64 0, .slice none 0 0, .slice none 0 0]), 3, 56) := by kernel_rfl

set_option maxRecDepth 100000 in
set_option maxHeartbeats 8000000 in
theorem draw_cur (B c : Nat) (w : World) (a : Option Addr) (len cap : Nat) (h : Cu.Cur B w c a len cap) :
    Calls Tryz.prog 43 #[.pointer (some ⟨c, 0, none⟩)] w fun e w' => DrewP B w c a len cap e w' := by
  obtain ⟨j0, hj, hy0, hy1, hy2⟩ := info_parts infoM
  obtain ⟨k0, hif, hz0, hz1, hz2⟩ := info_parts infoN
  obtain ⟨jk, hjk, hk0, hk1, hk2⟩ := info_parts infoK
  have hcw : c < w.heap.size := h.2.1
  have HA : Hid (Cu.At B w (w.alloc (.cells #[.slice none 0 0] 26)) c a len cap) := (Cu.At.start h).alloc _
  have R0 : Hid (Cells (w.alloc (.cells #[.slice none 0 0] 26)) w.heap.size [.slice none 0 0]) := Cells.new w _ rfl _ _
  clear h
  go_enter Tryz.func43, Tryz.ntmps43
  go_wp2_with fail
  refine (Cu.below_at B c _ _ a len cap 4 (Cu.At.start HA.out.2)).mono ?_
  rintro e w1 ⟨r, rfl, hr0, hr1, hr2, hr3, hA0⟩
  have hA1 : Cu.At B w w1 c a len cap := HA.out.step hA0
  have hr4 : r < 4 := hr2 (by omega)
  clear hr2 hr3 hr1
  obtain ⟨n, hn⟩ : ∃ n : Nat, 1 + r = (n : Int) := ⟨(1 + r).toNat, by omega⟩
  have hn1 : 1 ≤ n := by omega
  have hn4 : n ≤ 4 := by omega
  have hw3 : IntKind.i64.wrap (n : Int) = (n : Int) := by simp [IntKind.wrap, IntKind.signed, IntKind.bits]; omega
  have hns : 1 + r = (n : Int) := hn
  clear hn hr0 hr4
  obtain ⟨pb, hpb⟩ : ∃ pb, w1.heap.size = pb := ⟨_, rfl⟩
  have hsz1 : w.heap.size < pb := by have := hA0.1.size; simp at this; omega
  have PB : Hid (PC pb (pb + 1) (w1.alloc (.cells #[.slice none 0 0] 26)) []) :=
    ⟨by simp; omega, .slice none 0 0, [], fun _ => (0, 0), rfl, Cells.new w1 _ hpb.symm _ _, by omega, World.ownsRow_nil _ _ _ _, fun g hg => by simp [Value.ownBlock] at hg, fun j x hx => by simp at hx⟩
  have HA2 : Hid (Cu.At B w (w1.alloc (.cells #[.slice none 0 0] 26)) c a len cap) := hA1.alloc _
  have R2 : Hid (Cells (w1.alloc (.cells #[.slice none 0 0] 26)) w.heap.size [.slice none 0 0]) := (Cu.cells_touch R0.out hA0.1 (by omega)).alloc _
  clear hA1 HA hA0 R0
  go_wp2
  clear hpb
  generalize w1.alloc (.cells #[.slice none 0 0] 26) = W at *
  go_loopg [5] n (fun k x wr => ∃ (i : Nat) (cs : Prg) (T : Nat), x = .int .i64 (i : Int) ∧ i + k = n ∧ Hid (cs.length = i) ∧ Hid (Stand cs) ∧ Hid (PC pb T wr cs) ∧ Hid (Cu.At B w wr c a len cap) ∧ Hid (Cells wr w.heap.size [.slice none 0 0]))
  case atStart => exact ⟨0, [], _, rfl, by omega, rfl, fun j c h => by simp at h, PB.out, HA2.out, R2.out⟩
  case round =>
    clear PB HA2 R2
    obtain ⟨i, cs, T, rfl, hik, hcs, hst, hPC, hAt, hR⟩ := hrel
    by_cases hlt : i < n
    · have hii : (i : Int) < (n : Int) := by omega
      have hwi : IntKind.i64.wrap ((i : Int) - 1) = (i : Int) - 1 := by simp [IntKind.wrap, IntKind.signed, IntKind.bits]; omega
      go_wp2_with fail
      refine (from_at B c wr _ a len cap (-1) ((i : Int) - 1) (by omega) (by omega) (by omega) (by omega) (Cu.At.start hAt.out.2)).mono ?_
      rintro e w2 ⟨sp, rfl, hsp0, hsp1, _, hA2⟩
      have hPC2 : PC pb T w2 cs := hPC.out.same (Same.touch hA2.1 (by omega) hPC.out.1)
      have hsz2 := hA2.1.size
      have hTw := hPC2.1
      have hpT := hPC2.pb
      obtain ⟨X, hX⟩ : ∃ X, X = (w2.alloc (.cells #[.int .i64 (-1)] 2)).alloc (.cells #[.int .i64 sp, .slice (some ⟨w2.heap.size, 0, none⟩) 1 1, .slice none 0 0] 45) := ⟨_, rfl⟩
      have hbX : Below w2.heap.size w2 X := by rw [hX]; exact ((Below.refl _ w2).alloc (Nat.le_refl _) _).alloc (by simp) _
      have HST : Hid (ST B w c a len cap pb T w2.heap.size cs ⟨sp, [-1], []⟩ X) := by
        have hxc : XC w2.heap.size X ⟨sp, [-1], []⟩ := by
          rw [hX]
          refine ⟨.slice (some ⟨w2.heap.size, 0, none⟩) 1 1, .slice none 0 0, Cells.new (w2.alloc _) _ (by simp) _ _, ⟨⟨rfl, .inr ⟨w2.heap.size, 1, #[.int .i64 (-1)], rfl, Nat.le_refl _, (Below.heap_alloc (w2.alloc _) _ _ (by simp)).trans (heap_alloc_new w2 _), Nat.le_refl _, by decide, rfl, rfl⟩⟩, by simp⟩, ⟨[], rfl, World.ownsRow_nil _ _ _ _, fun x hx => by simp at hx⟩, fun g _ h => by simp [Value.ownBlock] at h, by simp [Value.ownBlock]⟩
        exact ⟨hPC2.same ⟨hbX.size, fun k _ b => hbX.block k (by omega)⟩, hxc, hTw, (hAt.out.step hA2).low hcw (hbX.mono (by omega)), cells_move (Cu.cells_touch hR.out hA2.1 (by omega)) (hbX.block _ (by omega)), hsz1, hcw⟩
      have hsp2 : sp < (i : Int) ∨ sp = -1 := by omega
      clear hPC2 hPC hAt hR hA2 hbX hsp1 hsz2
      go_upto_if 24 with fail
      rw [← hX]
      clear hX
      generalize w2.heap.size = s at *
      go_cut [6] (fun p u => p = .pointer (some ⟨s + 1, 0, none⟩) ∧ ∃ cl, Hid (Few (if i = 0 then 1 else 0) 1 1 cl) ∧ Hid (-1 ≤ cl.super ∧ (cl.super < (i : Int) ∨ cl.super = -1)) ∧ Hid (ST B w c a len cap pb T s cs cl u))
      case first =>
        by_cases hi0 : i = 0
        · subst hi0
          obtain ⟨r0, q0⟩ : X.cell? ⟨s + 1, 0, none⟩ = some (.int .i64 sp) ∧ X.frozen? ⟨s + 1, 0, none⟩ = false := by
            obtain ⟨vf, vm, h, _⟩ := HST.out.xc
            exact h.g0
          have HS8 : Hid (ST B w c a len cap pb T s cs ⟨-1, [-1], []⟩ (X.setCell ⟨s + 1, 0, none⟩ (.int .i64 (-1)))) := HST.out.next (HST.out.xc.super (-1)) ((Below.refl s X).setCell (p := ⟨s + 1, 0, none⟩) (by show s ≤ s + 1; omega) _)
          clear HST
          go_upto_region 9 with fail
          clear r0 q0
          generalize X.setCell ⟨s + 1, 0, none⟩ (.int .i64 (-1)) = u at *
          obtain ⟨vf, vm, l, hxp⟩ := HS8.out.xc.parts
          obtain ⟨am, dm, rfl⟩ := hxp.form
          have HX : Hid (XP s u _ vf (.slice am _ dm) l) := hxp
          have x0 := hxp.c1.g2.1
          have hlt0 := hxp.lt
          clear hxp
          go_region_law (first
            | (refine stepAppAt _ rfl (.tmp 27) (.tmp 31) 43 rfl (s + 2) 35 j0 (.agg #[.int .i64 0, .slice none 0 0, .int .i64 0, .slice none 0 0]) 4 64 Tryz.underlying43 hj hy0 hy1 hy2 rfl (by decide) (.slice am 0 dm) 0 (flatM l) (by simp [Act.eval]) (HX2.out.own.alloc _) ⟨u2.heap.size, 0, none⟩ 1 1 [.int .i64 0, .slice none 0 0, .int .i64 (-1), .slice (some ⟨gc, 0, none⟩) lc.length yc] (by simp [Act.eval]) rfl (cell_four_new _ _ _ _ _ _) (by simp [Value.oneCell']) (by unfold maxLen; omega) (by omega) (by have := HX2.out.lt.2.2; simp; omega) ?_; intro v3 w3 hown3 hgrow3 hnil3 hat3; obtain ⟨g3, d3, rfl⟩ := own_more hown3; obtain ⟨c3, hxc3, hb3⟩ := XC.meth (L := u.heap.size) (m := ⟨0, [], -1, lc⟩) HX2.out.c1 HX2.out.gf HX2.out.he HX2.out.own HX2.out.win HX2.out.h7 HX2.out.h8 hlt0.2.2 HMV.out hlt0.1 hlt0.2.1 hown3 hgrow3 hat3; obtain ⟨r3, q3⟩ := c3.g2)
            | (go_simp; go_at_call 62; refine (meth_st 0 (n : Int) true (by omega) (by omega) HS8.out HX.out ⟨(Cu.Touch.refl _ _).drew, HS8.out.cur⟩).mono ?_; rintro e u2 ⟨gc, yc, lc, rfl, hl42, HT2, HX2, HMV⟩; have x2 := HX2.out.c1.g2.1; have x2a := (HX2.out.c1.alloc (.cells #[.int .i64 0, .slice none 0 0, .int .i64 (-1), .slice (some ⟨gc, 0, none⟩) lc.length yc] 35)).g2.1; dsimp only))
          all_goals
            have HSN : Hid (ST B w c a len cap pb T s cs _ (w3.setCell ⟨s + 1, 2, none⟩ (.slice (some ⟨g3, 0, none⟩) 1 d3))) := HT2.out.next hxc3 hb3
            go_wp2_with fail
            go_meet
            exact ⟨rfl, _, few_snoc (few_nil (by simp)) ⟨by simp, hl42⟩, ⟨by simp, .inr rfl⟩, HSN.out⟩
        · have hib : ((i : Int) == 0) = false := by simp; omega
          go_wp2_with fail
          go_meet
          exact ⟨rfl, _, by rw [if_neg hi0]; exact (few_nil (by simp)).wide (by omega) (by omega) (by omega), ⟨hsp0, hsp2⟩, HST.out⟩
      case rest =>
        obtain ⟨rfl, cl, hfew, hsup, hST⟩ := hcut
        clear HST hsp2 hsp0
        go_wp2_with fail
        refine (Cu.once_at B c wc _ a len cap 3 (Cu.At.start hST.out.cur)).mono ?_
        rintro e w4 ⟨q4, rfl, hA4⟩
        have HS4 : Hid (ST B w c a len cap pb T s cs cl w4) := hST.out.touch hA4
        clear hST hA4
        go_upto_if 35 with fail
        go_cut [6] (fun p u => p = .pointer (some ⟨s + 1, 0, none⟩) ∧ ∃ cl, Hid (Few (if i = 0 then 1 else 0) 1 2 cl) ∧ Hid (-1 ≤ cl.super ∧ (cl.super < (i : Int) ∨ cl.super = -1)) ∧ Hid (ST B w c a len cap pb T s cs cl u))
        case first =>
          cases q4
          · go_wp2_with fail
            go_meet
            exact ⟨rfl, cl, hfew.out.wide (Nat.le_refl _) (Nat.le_refl _) (by omega), hsup.out, HS4.out⟩
          · obtain ⟨vf, vm, l, hxp⟩ := HS4.out.xc.parts
            obtain ⟨gf, df, rfl⟩ := hxp.formf
            have HX : Hid (XP s w4 cl (.slice (some ⟨gf, 0, none⟩) cl.fields.length df) vm l) := hxp
            have x0 := hxp.c1.g1.1
            have hfl : cl.fields.length ≤ 1 := hfew.out.2.2.1
            have hwn : IntKind.i64.wrap ((n : Int) - 1) = (n : Int) - 1 := by simp [IntKind.wrap, IntKind.signed, IntKind.bits]; omega
            clear hxp
            go_upto_region 11 with fail
            go_region_law (first
              | (refine stepAppAt _ rfl (.tmp 37) (.tmp 42) 29 rfl s 2 k0 (.int .i64 0) 1 8 Tryz.underlying29 hif hz0 hz1 hz2 rfl (by decide) (.slice (some ⟨gf, 0, none⟩) cl.fields.length df) cl.fields.length (nums cl.fields) (by simp [Act.eval]) (HX2.out.gf.1.alloc _) ⟨u2.heap.size, 0, none⟩ 1 1 [.int .i64 x] (by simp [Act.eval]) rfl (cell_one_new _ _ _) (by simp [Value.oneCell']) (by unfold maxLen; omega) (by omega) (by have := HX2.out.lt.2.2; simp; omega) ?_; intro v3 w3 hown3 hgrow3 hnil3 hat3; obtain ⟨g3, d3, rfl⟩ := own_more hown3; obtain ⟨c3, hxc3, hb3⟩ := XC.field HX2.out.c1 HX2.out.gf HX2.out.he HX2.out.own HX2.out.win HX2.out.h7 HX2.out.h8 hown3 hgrow3 hat3 (by simp); obtain ⟨r3, q3⟩ := c3.g1)
              | (go_simp; go_at_call 22; refine (from_st (-1) ((n : Int) - 1) (by omega) (by omega) (by omega) (by omega) HS4.out HX.out ⟨(Cu.Touch.refl _ _).drew, HS4.out.cur⟩).mono ?_; rintro e u2 ⟨x, rfl, HT2, HX2⟩; have x2 := HX2.out.c1.g1.1; have x2a := (HX2.out.c1.alloc (.cells #[.int .i64 x] 2)).g1.1; dsimp only))
            all_goals
              have HSN : Hid (ST B w c a len cap pb T s cs _ (w3.setCell ⟨s + 1, 1, none⟩ (.slice (some ⟨g3, 0, none⟩) (cl.fields.length + 1) d3))) := HT2.out.next hxc3 hb3
              go_wp2_with fail
              go_meet
              exact ⟨rfl, _, few_field hfew.out _, hsup.out, HSN.out⟩
        case rest =>
          clear HS4 hfew hsup
          obtain ⟨rfl, cl, hfew, hsup, hST⟩ := hcut
          go_upto_region 12 with fail
          go_cut [6] (fun p u => p = .pointer (some ⟨s + 1, 0, none⟩) ∧ ∃ cl, Hid (Few (if i = 0 then 2 else 1) 2 2 cl) ∧ Hid (-1 ≤ cl.super ∧ (cl.super < (i : Int) ∨ cl.super = -1)) ∧ Hid (ST B w c a len cap pb T s cs cl u))
          case first =>
            obtain ⟨vf, vm, l, hxp⟩ := hST.out.xc.parts
            obtain ⟨am, dm, rfl⟩ := hxp.form
            have HX : Hid (XP s wc cl vf (.slice am cl.meths.length dm) l) := hxp
            have x0 := hxp.c1.g2.1
            have hml : cl.meths.length ≤ 1 := hfew.out.2.1
            have hltW := hxp.lt
            clear hxp
            have HT0 : Hid (ST B w c a len cap pb T s cs cl wc.drew) := hST.out.drew
            have HX0 : Hid (XP s wc.drew cl vf (.slice am cl.meths.length dm) l) := HX.out.same (Same.on (Below.refl _ _).drew (Nat.le_refl _))
            clear x0 hltW HX
            by_cases hi0 : i = 0
            · subst hi0
              refine wp_region_held_drew (S := fun _ => True) (by kernel_rfl) trivial (fun _ => ?_)
              refine wpAnyH_take (i := 0) (v := ?_) rfl (by kernel_rfl) (by kernel_rfl) (by kernel_rfl) (fun _ _ _ h => h) (Or.inl ⟨by rfl, ?_⟩) trivial ?_
              rotate_left 1
              · intro w' _
                go_simp
                try with_reducible rfl
              simp only [Act.put]
              refine wpAnyH_take (i := 2) (v := ?_) rfl (by kernel_rfl) (by kernel_rfl) (by kernel_rfl) (fun _ _ _ h => h) (Or.inl ⟨by rfl, ?_⟩) trivial ?_
              rotate_left 1
              · intro w' _
                go_simp
                try with_reducible rfl
              simp only [Act.put]
              refine wpAnyH_take (i := 3) (v := ?_) rfl (by kernel_rfl) (by kernel_rfl) (by kernel_rfl) (fun _ _ _ h => h) (Or.inl ⟨by rfl, ?_⟩) trivial ?_
              rotate_left 1
              · intro w' _
                go_simp
                try with_reducible rfl
              simp only [Act.put]
              refine wpAnyH_take (i := 4) (v := ?_) rfl (by kernel_rfl) (by kernel_rfl) (by kernel_rfl) (fun _ _ _ h => h) (Or.inl ⟨by rfl, ?_⟩) trivial ?_
              rotate_left 1
              · intro w' _
                go_simp
                try with_reducible rfl
              simp only [Act.put]
              refine wpAnyH_take (i := 5) (v := ?_) rfl (by kernel_rfl) (by kernel_rfl) (by kernel_rfl) (fun _ _ _ h => h) (Or.inl ⟨by rfl, ?_⟩) trivial ?_
              rotate_left 1
              · intro w' _
                go_simp
                try with_reducible rfl
              simp only [Act.put]
              refine wpAnyH_take (i := 6) (v := undef) rfl (by kernel_rfl) (by kernel_rfl) (by kernel_rfl) (fun _ _ _ h => h) (Or.inr ⟨by rfl, rfl⟩) trivial ?_
              simp only [Act.put]
              refine wpAnyH_take (i := 7) (v := undef) rfl (by kernel_rfl) (by kernel_rfl) (by kernel_rfl) (fun _ _ _ h => h) (Or.inr ⟨by rfl, rfl⟩) trivial ?_
              simp only [Act.put]
              refine wpAnyH_take (i := 8) (v := ?_) rfl (by kernel_rfl) (by kernel_rfl) (by kernel_rfl) (fun _ _ _ h => h) (Or.inl ⟨by rfl, ?_⟩) trivial ?_
              rotate_left 1
              · intro w' _
                go_simp
                try with_reducible rfl
              simp only [Act.put]
              refine wpAnyH_take (i := 9) (v := ?_) rfl (by kernel_rfl) (by kernel_rfl) (by kernel_rfl) (fun _ _ _ h => h) (Or.inl ⟨by rfl, ?_⟩) trivial ?_
              rotate_left 1
              · intro w' _
                go_simp
                try with_reducible rfl
              simp only [Act.put]
              refine wpAnyH_ready (rs := [1, 10]) (by kernel_rfl) (by simp) ?_
              refine AllReadyH.cons rfl (fun K hK => ?_) (AllReadyH.cons rfl (fun K hK => ?_) AllReadyH.nil)
              · have xv := HX0.out.c1.g2.1
                go_simp
                refine hK.out _ _ trivial (fun _ => ?_)
                clear hK K xv
                refine wpAnyH_ready (rs := [10]) (by kernel_rfl) (by simp) ?_
                refine AllReadyH.cons rfl (fun K hK => ?_) AllReadyH.nil
                go_simp
                refine (meth_st 1 (n : Int) false (by omega) (by omega) HT0.out HX0.out (Cu.At.start HT0.out.cur)).mono ?_
                rintro e u2 ⟨gc, yc, lc, rfl, hl42, HT2, HX2, HMV⟩
                dsimp only
                refine hK.out _ _ trivial (fun _ => ?_)
                clear hK K
                refine wpAnyH_ready (rs := [11]) (by kernel_rfl) (by simp) ?_
                refine AllReadyH.cons rfl (fun K hK => ?_) AllReadyH.nil
                go_simp
                refine hK.out _ _ trivial (fun _ => ?_)
                clear hK K
                refine wpAnyH_ready (rs := [12]) (by kernel_rfl) (by simp) ?_
                refine AllReadyH.cons rfl (fun K hK => ?_) AllReadyH.nil
                refine stepAppAt _ rfl (.tmp 46) (.tmp 56) 43 rfl (s + 2) 35 j0 (.agg #[.int .i64 0, .slice none 0 0, .int .i64 0, .slice none 0 0]) 4 64 Tryz.underlying43 hj hy0 hy1 hy2 rfl (by decide) (.slice am cl.meths.length dm) cl.meths.length (flatM l) (by simp [Act.eval]) (HX2.out.own.alloc _) ⟨u2.heap.size, 0, none⟩ 1 1 [.int .i64 1, .slice none 0 0, .int .i64 (-1), .slice (some ⟨gc, 0, none⟩) lc.length yc] (by simp [Act.eval]) rfl (cell_four_new _ _ _ _ _ _) (by simp [Value.oneCell']) (by unfold maxLen; omega) (by omega) (by have := HX2.out.lt.2.2; simp; omega) ?_
                intro v3 w3 hown3 hgrow3 hnil3 hat3
                obtain ⟨g3, d3, rfl⟩ := own_more hown3
                obtain ⟨c3, hxc3, hb3⟩ := XC.meth (m := ⟨1, [], -1, lc⟩) HX2.out.c1 HX2.out.gf HX2.out.he HX2.out.own HX2.out.win HX2.out.h7 HX2.out.h8 HX0.out.lt.2.2 HMV.out HX0.out.lt.1 HX0.out.lt.2.1 hown3 hgrow3 hat3
                obtain ⟨r3, q3⟩ := c3.g2
                refine hK.out _ _ trivial (fun _ => ?_)
                clear hK K
                simp only [Act.put]
                refine wpAnyH_take (i := 13) (v := ?_) rfl (by kernel_rfl) (by kernel_rfl) (by kernel_rfl) (fun _ _ _ h => h) (Or.inl ⟨by rfl, ?_⟩) trivial ?_
                rotate_left 1
                · intro w' _
                  go_simp
                  try with_reducible rfl
                simp only [Act.put]
                refine wpAnyH_ready (rs := [14]) (by kernel_rfl) (by simp) ?_
                refine AllReadyH.cons rfl (fun K hK => ?_) AllReadyH.nil
                go_simp
                refine hK.out _ _ trivial (fun _ => ?_)
                clear hK K
                refine wpAnyH_done (by kernel_rfl) ?_ _
                have HSN : Hid (ST B w c a len cap pb T s cs _ (w3.setCell ⟨s + 1, 2, none⟩ (.slice (some ⟨g3, 0, none⟩) (cl.meths.length + 1) d3))) := HT2.out.next hxc3 hb3
                go_wp2_with fail
                go_meet
                exact ⟨rfl, { cl with meths := cl.meths ++ [⟨1, [], -1, lc⟩] }, few_snoc hfew.out ⟨by simp, hl42⟩, hsup.out, HSN.out⟩
              · go_simp
                refine (meth_st 1 (n : Int) false (by omega) (by omega) HT0.out HX0.out (Cu.At.start HT0.out.cur)).mono ?_
                rintro e u2 ⟨gc, yc, lc, rfl, hl42, HT2, HX2, HMV⟩
                dsimp only
                refine hK.out _ _ trivial (fun _ => ?_)
                clear hK K
                refine wpAnyH_ready (rs := [1, 11]) (by kernel_rfl) (by simp) ?_
                refine AllReadyH.cons rfl (fun K hK => ?_) (AllReadyH.cons rfl (fun K hK => ?_) AllReadyH.nil)
                · have xv := HX2.out.c1.g2.1
                  go_simp
                  refine hK.out _ _ trivial (fun _ => ?_)
                  clear hK K xv
                  refine wpAnyH_ready (rs := [11]) (by kernel_rfl) (by simp) ?_
                  refine AllReadyH.cons rfl (fun K hK => ?_) AllReadyH.nil
                  go_simp
                  refine hK.out _ _ trivial (fun _ => ?_)
                  clear hK K
                  refine wpAnyH_ready (rs := [12]) (by kernel_rfl) (by simp) ?_
                  refine AllReadyH.cons rfl (fun K hK => ?_) AllReadyH.nil
                  refine stepAppAt _ rfl (.tmp 46) (.tmp 56) 43 rfl (s + 2) 35 j0 (.agg #[.int .i64 0, .slice none 0 0, .int .i64 0, .slice none 0 0]) 4 64 Tryz.underlying43 hj hy0 hy1 hy2 rfl (by decide) (.slice am cl.meths.length dm) cl.meths.length (flatM l) (by simp [Act.eval]) (HX2.out.own.alloc _) ⟨u2.heap.size, 0, none⟩ 1 1 [.int .i64 1, .slice none 0 0, .int .i64 (-1), .slice (some ⟨gc, 0, none⟩) lc.length yc] (by simp [Act.eval]) rfl (cell_four_new _ _ _ _ _ _) (by simp [Value.oneCell']) (by unfold maxLen; omega) (by omega) (by have := HX2.out.lt.2.2; simp; omega) ?_
                  intro v3 w3 hown3 hgrow3 hnil3 hat3
                  obtain ⟨g3, d3, rfl⟩ := own_more hown3
                  obtain ⟨c3, hxc3, hb3⟩ := XC.meth (m := ⟨1, [], -1, lc⟩) HX2.out.c1 HX2.out.gf HX2.out.he HX2.out.own HX2.out.win HX2.out.h7 HX2.out.h8 HX0.out.lt.2.2 HMV.out HX0.out.lt.1 HX0.out.lt.2.1 hown3 hgrow3 hat3
                  obtain ⟨r3, q3⟩ := c3.g2
                  refine hK.out _ _ trivial (fun _ => ?_)
                  clear hK K
                  simp only [Act.put]
                  refine wpAnyH_take (i := 13) (v := ?_) rfl (by kernel_rfl) (by kernel_rfl) (by kernel_rfl) (fun _ _ _ h => h) (Or.inl ⟨by rfl, ?_⟩) trivial ?_
                  rotate_left 1
                  · intro w' _
                    go_simp
                    try with_reducible rfl
                  simp only [Act.put]
                  refine wpAnyH_ready (rs := [14]) (by kernel_rfl) (by simp) ?_
                  refine AllReadyH.cons rfl (fun K hK => ?_) AllReadyH.nil
                  go_simp
                  refine hK.out _ _ trivial (fun _ => ?_)
                  clear hK K
                  refine wpAnyH_done (by kernel_rfl) ?_ _
                  have HSN : Hid (ST B w c a len cap pb T s cs _ (w3.setCell ⟨s + 1, 2, none⟩ (.slice (some ⟨g3, 0, none⟩) (cl.meths.length + 1) d3))) := HT2.out.next hxc3 hb3
                  go_wp2_with fail
                  go_meet
                  exact ⟨rfl, { cl with meths := cl.meths ++ [⟨1, [], -1, lc⟩] }, few_snoc hfew.out ⟨by simp, hl42⟩, hsup.out, HSN.out⟩
                · go_simp
                  refine hK.out _ _ trivial (fun _ => ?_)
                  clear hK K
                  refine wpAnyH_ready (rs := [1]) (by kernel_rfl) (by simp) ?_
                  refine AllReadyH.cons rfl (fun K hK => ?_) AllReadyH.nil
                  have xv := (HX2.out.c1.alloc (.cells #[.int .i64 1, .slice none 0 0, .int .i64 (-1), .slice (some ⟨gc, 0, none⟩) lc.length yc] 35)).g2.1
                  go_simp
                  refine hK.out _ _ trivial (fun _ => ?_)
                  clear hK K xv
                  refine wpAnyH_ready (rs := [12]) (by kernel_rfl) (by simp) ?_
                  refine AllReadyH.cons rfl (fun K hK => ?_) AllReadyH.nil
                  refine stepAppAt _ rfl (.tmp 46) (.tmp 56) 43 rfl (s + 2) 35 j0 (.agg #[.int .i64 0, .slice none 0 0, .int .i64 0, .slice none 0 0]) 4 64 Tryz.underlying43 hj hy0 hy1 hy2 rfl (by decide) (.slice am cl.meths.length dm) cl.meths.length (flatM l) (by simp [Act.eval]) (HX2.out.own.alloc _) ⟨u2.heap.size, 0, none⟩ 1 1 [.int .i64 1, .slice none 0 0, .int .i64 (-1), .slice (some ⟨gc, 0, none⟩) lc.length yc] (by simp [Act.eval]) rfl (cell_four_new _ _ _ _ _ _) (by simp [Value.oneCell']) (by unfold maxLen; omega) (by omega) (by have := HX2.out.lt.2.2; simp; omega) ?_
                  intro v3 w3 hown3 hgrow3 hnil3 hat3
                  obtain ⟨g3, d3, rfl⟩ := own_more hown3
                  obtain ⟨c3, hxc3, hb3⟩ := XC.meth (m := ⟨1, [], -1, lc⟩) HX2.out.c1 HX2.out.gf HX2.out.he HX2.out.own HX2.out.win HX2.out.h7 HX2.out.h8 HX0.out.lt.2.2 HMV.out HX0.out.lt.1 HX0.out.lt.2.1 hown3 hgrow3 hat3
                  obtain ⟨r3, q3⟩ := c3.g2
                  refine hK.out _ _ trivial (fun _ => ?_)
                  clear hK K
                  simp only [Act.put]
                  refine wpAnyH_take (i := 13) (v := ?_) rfl (by kernel_rfl) (by kernel_rfl) (by kernel_rfl) (fun _ _ _ h => h) (Or.inl ⟨by rfl, ?_⟩) trivial ?_
                  rotate_left 1
                  · intro w' _
                    go_simp
                    try with_reducible rfl
                  simp only [Act.put]
                  refine wpAnyH_ready (rs := [14]) (by kernel_rfl) (by simp) ?_
                  refine AllReadyH.cons rfl (fun K hK => ?_) AllReadyH.nil
                  go_simp
                  refine hK.out _ _ trivial (fun _ => ?_)
                  clear hK K
                  refine wpAnyH_done (by kernel_rfl) ?_ _
                  have HSN : Hid (ST B w c a len cap pb T s cs _ (w3.setCell ⟨s + 1, 2, none⟩ (.slice (some ⟨g3, 0, none⟩) (cl.meths.length + 1) d3))) := HT2.out.next hxc3 hb3
                  go_wp2_with fail
                  go_meet
                  exact ⟨rfl, { cl with meths := cl.meths ++ [⟨1, [], -1, lc⟩] }, few_snoc hfew.out ⟨by simp, hl42⟩, hsup.out, HSN.out⟩
            · have hgn : 0 < i := by omega
              have hgb : decide (0 < i) = true := by simpa using hgn
              refine wp_region_held_drew (S := fun _ => True) (by kernel_rfl) trivial (fun _ => ?_)
              refine wpAnyH_take (i := 0) (v := ?_) rfl (by kernel_rfl) (by kernel_rfl) (by kernel_rfl) (fun _ _ _ h => h) (Or.inl ⟨by rfl, ?_⟩) trivial ?_
              rotate_left 1
              · intro w' _
                go_simp
                try with_reducible rfl
              simp only [Act.put]
              refine wpAnyH_take (i := 2) (v := ?_) rfl (by kernel_rfl) (by kernel_rfl) (by kernel_rfl) (fun _ _ _ h => h) (Or.inl ⟨by rfl, ?_⟩) trivial ?_
              rotate_left 1
              · intro w' _
                go_simp
                try with_reducible rfl
              simp only [Act.put]
              refine wpAnyH_take (i := 3) (v := ?_) rfl (by kernel_rfl) (by kernel_rfl) (by kernel_rfl) (fun _ _ _ h => h) (Or.inl ⟨by rfl, ?_⟩) trivial ?_
              rotate_left 1
              · intro w' _
                go_simp
                try with_reducible rfl
              simp only [Act.put]
              refine wpAnyH_take (i := 4) (v := ?_) rfl (by kernel_rfl) (by kernel_rfl) (by kernel_rfl) (fun _ _ _ h => h) (Or.inl ⟨by rfl, ?_⟩) trivial ?_
              rotate_left 1
              · intro w' _
                go_simp
                try with_reducible rfl
              simp only [Act.put]
              refine wpAnyH_take (i := 5) (v := ?_) rfl (by kernel_rfl) (by kernel_rfl) (by kernel_rfl) (fun _ _ _ h => h) (Or.inl ⟨by rfl, ?_⟩) trivial ?_
              rotate_left 1
              · intro w' _
                go_simp
                try with_reducible rfl
              simp only [Act.put]
              refine wpAnyH_take (i := 6) (v := ?_) rfl (by kernel_rfl) (by kernel_rfl) (by kernel_rfl) (fun _ _ _ h => h) (Or.inl ⟨by rfl, ?_⟩) trivial ?_
              rotate_left 1
              · intro w' _
                go_simp
                try with_reducible rfl
              simp only [Act.put]
              refine wpAnyH_take (i := 9) (v := ?_) rfl (by kernel_rfl) (by kernel_rfl) (by kernel_rfl) (fun _ _ _ h => h) (Or.inl ⟨by rfl, ?_⟩) trivial ?_
              rotate_left 1
              · intro w' _
                go_simp
                try with_reducible rfl
              simp only [Act.put]
              refine wpAnyH_ready (rs := [1, 7]) (by kernel_rfl) (by simp) ?_
              refine AllReadyH.cons rfl (fun K hK => ?_) (AllReadyH.cons rfl (fun K hK => ?_) AllReadyH.nil)
              · have xv := HX0.out.c1.g2.1
                go_simp
                refine hK.out _ _ trivial (fun _ => ?_)
                clear hK K xv
                refine wpAnyH_ready (rs := [7]) (by kernel_rfl) (by simp) ?_
                refine AllReadyH.cons rfl (fun K hK => ?_) AllReadyH.nil
                go_simp
                refine (once_st 4 HT0.out HX0.out (Cu.At.start HT0.out.cur)).mono ?_
                rintro e u1 ⟨q1, rfl, HT1, HX1⟩
                dsimp only
                refine hK.out _ _ trivial (fun _ => ?_)
                clear hK K
                refine wpAnyH_take (i := 8) (v := ?_) rfl (by kernel_rfl) (by kernel_rfl) (by kernel_rfl) (fun _ _ _ h => h) (Or.inl ⟨by rfl, ?_⟩) trivial ?_
                rotate_left 1
                · intro w' _
                  go_simp
                  try with_reducible rfl
                simp only [Act.put]
                refine wpAnyH_ready (rs := [10]) (by kernel_rfl) (by simp) ?_
                refine AllReadyH.cons rfl (fun K hK => ?_) AllReadyH.nil
                go_simp
                refine (meth_st 1 (n : Int) q1 (by omega) (by omega) HT1.out HX1.out (Cu.At.start HT1.out.cur)).mono ?_
                rintro e u2 ⟨gc, yc, lc, rfl, hl42, HT2, HX2, HMV⟩
                dsimp only
                refine hK.out _ _ trivial (fun _ => ?_)
                clear hK K
                refine wpAnyH_ready (rs := [11]) (by kernel_rfl) (by simp) ?_
                refine AllReadyH.cons rfl (fun K hK => ?_) AllReadyH.nil
                go_simp
                refine hK.out _ _ trivial (fun _ => ?_)
                clear hK K
                refine wpAnyH_ready (rs := [12]) (by kernel_rfl) (by simp) ?_
                refine AllReadyH.cons rfl (fun K hK => ?_) AllReadyH.nil
                refine stepAppAt _ rfl (.tmp 46) (.tmp 56) 43 rfl (s + 2) 35 j0 (.agg #[.int .i64 0, .slice none 0 0, .int .i64 0, .slice none 0 0]) 4 64 Tryz.underlying43 hj hy0 hy1 hy2 rfl (by decide) (.slice am cl.meths.length dm) cl.meths.length (flatM l) (by simp [Act.eval]) (HX2.out.own.alloc _) ⟨u2.heap.size, 0, none⟩ 1 1 [.int .i64 1, .slice none 0 0, .int .i64 (-1), .slice (some ⟨gc, 0, none⟩) lc.length yc] (by simp [Act.eval]) rfl (cell_four_new _ _ _ _ _ _) (by simp [Value.oneCell']) (by unfold maxLen; omega) (by omega) (by have := HX2.out.lt.2.2; simp; omega) ?_
                intro v3 w3 hown3 hgrow3 hnil3 hat3
                obtain ⟨g3, d3, rfl⟩ := own_more hown3
                obtain ⟨c3, hxc3, hb3⟩ := XC.meth (m := ⟨1, [], -1, lc⟩) HX2.out.c1 HX2.out.gf HX2.out.he HX2.out.own HX2.out.win HX2.out.h7 HX2.out.h8 HX1.out.lt.2.2 HMV.out HX1.out.lt.1 HX1.out.lt.2.1 hown3 hgrow3 hat3
                obtain ⟨r3, q3⟩ := c3.g2
                refine hK.out _ _ trivial (fun _ => ?_)
                clear hK K
                simp only [Act.put]
                refine wpAnyH_take (i := 13) (v := ?_) rfl (by kernel_rfl) (by kernel_rfl) (by kernel_rfl) (fun _ _ _ h => h) (Or.inl ⟨by rfl, ?_⟩) trivial ?_
                rotate_left 1
                · intro w' _
                  go_simp
                  try with_reducible rfl
                simp only [Act.put]
                refine wpAnyH_ready (rs := [14]) (by kernel_rfl) (by simp) ?_
                refine AllReadyH.cons rfl (fun K hK => ?_) AllReadyH.nil
                go_simp
                refine hK.out _ _ trivial (fun _ => ?_)
                clear hK K
                refine wpAnyH_done (by kernel_rfl) ?_ _
                have HSN : Hid (ST B w c a len cap pb T s cs _ (w3.setCell ⟨s + 1, 2, none⟩ (.slice (some ⟨g3, 0, none⟩) (cl.meths.length + 1) d3))) := HT2.out.next hxc3 hb3
                go_wp2_with fail
                go_meet
                exact ⟨rfl, { cl with meths := cl.meths ++ [⟨1, [], -1, lc⟩] }, few_if hi0 (few_snoc hfew.out ⟨by simp, hl42⟩), hsup.out, HSN.out⟩
              · go_simp
                refine (once_st 4 HT0.out HX0.out (Cu.At.start HT0.out.cur)).mono ?_
                rintro e u1 ⟨q1, rfl, HT1, HX1⟩
                dsimp only
                refine hK.out _ _ trivial (fun _ => ?_)
                clear hK K
                refine wpAnyH_take (i := 8) (v := ?_) rfl (by kernel_rfl) (by kernel_rfl) (by kernel_rfl) (fun _ _ _ h => h) (Or.inl ⟨by rfl, ?_⟩) trivial ?_
                rotate_left 1
                · intro w' _
                  go_simp
                  try with_reducible rfl
                simp only [Act.put]
                refine wpAnyH_ready (rs := [1, 10]) (by kernel_rfl) (by simp) ?_
                refine AllReadyH.cons rfl (fun K hK => ?_) (AllReadyH.cons rfl (fun K hK => ?_) AllReadyH.nil)
                · have xv := HX1.out.c1.g2.1
                  go_simp
                  refine hK.out _ _ trivial (fun _ => ?_)
                  clear hK K xv
                  refine wpAnyH_ready (rs := [10]) (by kernel_rfl) (by simp) ?_
                  refine AllReadyH.cons rfl (fun K hK => ?_) AllReadyH.nil
                  go_simp
                  refine (meth_st 1 (n : Int) q1 (by omega) (by omega) HT1.out HX1.out (Cu.At.start HT1.out.cur)).mono ?_
                  rintro e u2 ⟨gc, yc, lc, rfl, hl42, HT2, HX2, HMV⟩
                  dsimp only
                  refine hK.out _ _ trivial (fun _ => ?_)
                  clear hK K
                  refine wpAnyH_ready (rs := [11]) (by kernel_rfl) (by simp) ?_
                  refine AllReadyH.cons rfl (fun K hK => ?_) AllReadyH.nil
                  go_simp
                  refine hK.out _ _ trivial (fun _ => ?_)
                  clear hK K
                  refine wpAnyH_ready (rs := [12]) (by kernel_rfl) (by simp) ?_
                  refine AllReadyH.cons rfl (fun K hK => ?_) AllReadyH.nil
                  refine stepAppAt _ rfl (.tmp 46) (.tmp 56) 43 rfl (s + 2) 35 j0 (.agg #[.int .i64 0, .slice none 0 0, .int .i64 0, .slice none 0 0]) 4 64 Tryz.underlying43 hj hy0 hy1 hy2 rfl (by decide) (.slice am cl.meths.length dm) cl.meths.length (flatM l) (by simp [Act.eval]) (HX2.out.own.alloc _) ⟨u2.heap.size, 0, none⟩ 1 1 [.int .i64 1, .slice none 0 0, .int .i64 (-1), .slice (some ⟨gc, 0, none⟩) lc.length yc] (by simp [Act.eval]) rfl (cell_four_new _ _ _ _ _ _) (by simp [Value.oneCell']) (by unfold maxLen; omega) (by omega) (by have := HX2.out.lt.2.2; simp; omega) ?_
                  intro v3 w3 hown3 hgrow3 hnil3 hat3
                  obtain ⟨g3, d3, rfl⟩ := own_more hown3
                  obtain ⟨c3, hxc3, hb3⟩ := XC.meth (m := ⟨1, [], -1, lc⟩) HX2.out.c1 HX2.out.gf HX2.out.he HX2.out.own HX2.out.win HX2.out.h7 HX2.out.h8 HX1.out.lt.2.2 HMV.out HX1.out.lt.1 HX1.out.lt.2.1 hown3 hgrow3 hat3
                  obtain ⟨r3, q3⟩ := c3.g2
                  refine hK.out _ _ trivial (fun _ => ?_)
                  clear hK K
                  simp only [Act.put]
                  refine wpAnyH_take (i := 13) (v := ?_) rfl (by kernel_rfl) (by kernel_rfl) (by kernel_rfl) (fun _ _ _ h => h) (Or.inl ⟨by rfl, ?_⟩) trivial ?_
                  rotate_left 1
                  · intro w' _
                    go_simp
                    try with_reducible rfl
                  simp only [Act.put]
                  refine wpAnyH_ready (rs := [14]) (by kernel_rfl) (by simp) ?_
                  refine AllReadyH.cons rfl (fun K hK => ?_) AllReadyH.nil
                  go_simp
                  refine hK.out _ _ trivial (fun _ => ?_)
                  clear hK K
                  refine wpAnyH_done (by kernel_rfl) ?_ _
                  have HSN : Hid (ST B w c a len cap pb T s cs _ (w3.setCell ⟨s + 1, 2, none⟩ (.slice (some ⟨g3, 0, none⟩) (cl.meths.length + 1) d3))) := HT2.out.next hxc3 hb3
                  go_wp2_with fail
                  go_meet
                  exact ⟨rfl, { cl with meths := cl.meths ++ [⟨1, [], -1, lc⟩] }, few_if hi0 (few_snoc hfew.out ⟨by simp, hl42⟩), hsup.out, HSN.out⟩
                · go_simp
                  refine (meth_st 1 (n : Int) q1 (by omega) (by omega) HT1.out HX1.out (Cu.At.start HT1.out.cur)).mono ?_
                  rintro e u2 ⟨gc, yc, lc, rfl, hl42, HT2, HX2, HMV⟩
                  dsimp only
                  refine hK.out _ _ trivial (fun _ => ?_)
                  clear hK K
                  refine wpAnyH_ready (rs := [1, 11]) (by kernel_rfl) (by simp) ?_
                  refine AllReadyH.cons rfl (fun K hK => ?_) (AllReadyH.cons rfl (fun K hK => ?_) AllReadyH.nil)
                  · have xv := HX2.out.c1.g2.1
                    go_simp
                    refine hK.out _ _ trivial (fun _ => ?_)
                    clear hK K xv
                    refine wpAnyH_ready (rs := [11]) (by kernel_rfl) (by simp) ?_
                    refine AllReadyH.cons rfl (fun K hK => ?_) AllReadyH.nil
                    go_simp
                    refine hK.out _ _ trivial (fun _ => ?_)
                    clear hK K
                    refine wpAnyH_ready (rs := [12]) (by kernel_rfl) (by simp) ?_
                    refine AllReadyH.cons rfl (fun K hK => ?_) AllReadyH.nil
                    refine stepAppAt _ rfl (.tmp 46) (.tmp 56) 43 rfl (s + 2) 35 j0 (.agg #[.int .i64 0, .slice none 0 0, .int .i64 0, .slice none 0 0]) 4 64 Tryz.underlying43 hj hy0 hy1 hy2 rfl (by decide) (.slice am cl.meths.length dm) cl.meths.length (flatM l) (by simp [Act.eval]) (HX2.out.own.alloc _) ⟨u2.heap.size, 0, none⟩ 1 1 [.int .i64 1, .slice none 0 0, .int .i64 (-1), .slice (some ⟨gc, 0, none⟩) lc.length yc] (by simp [Act.eval]) rfl (cell_four_new _ _ _ _ _ _) (by simp [Value.oneCell']) (by unfold maxLen; omega) (by omega) (by have := HX2.out.lt.2.2; simp; omega) ?_
                    intro v3 w3 hown3 hgrow3 hnil3 hat3
                    obtain ⟨g3, d3, rfl⟩ := own_more hown3
                    obtain ⟨c3, hxc3, hb3⟩ := XC.meth (m := ⟨1, [], -1, lc⟩) HX2.out.c1 HX2.out.gf HX2.out.he HX2.out.own HX2.out.win HX2.out.h7 HX2.out.h8 HX1.out.lt.2.2 HMV.out HX1.out.lt.1 HX1.out.lt.2.1 hown3 hgrow3 hat3
                    obtain ⟨r3, q3⟩ := c3.g2
                    refine hK.out _ _ trivial (fun _ => ?_)
                    clear hK K
                    simp only [Act.put]
                    refine wpAnyH_take (i := 13) (v := ?_) rfl (by kernel_rfl) (by kernel_rfl) (by kernel_rfl) (fun _ _ _ h => h) (Or.inl ⟨by rfl, ?_⟩) trivial ?_
                    rotate_left 1
                    · intro w' _
                      go_simp
                      try with_reducible rfl
                    simp only [Act.put]
                    refine wpAnyH_ready (rs := [14]) (by kernel_rfl) (by simp) ?_
                    refine AllReadyH.cons rfl (fun K hK => ?_) AllReadyH.nil
                    go_simp
                    refine hK.out _ _ trivial (fun _ => ?_)
                    clear hK K
                    refine wpAnyH_done (by kernel_rfl) ?_ _
                    have HSN : Hid (ST B w c a len cap pb T s cs _ (w3.setCell ⟨s + 1, 2, none⟩ (.slice (some ⟨g3, 0, none⟩) (cl.meths.length + 1) d3))) := HT2.out.next hxc3 hb3
                    go_wp2_with fail
                    go_meet
                    exact ⟨rfl, { cl with meths := cl.meths ++ [⟨1, [], -1, lc⟩] }, few_if hi0 (few_snoc hfew.out ⟨by simp, hl42⟩), hsup.out, HSN.out⟩
                  · go_simp
                    refine hK.out _ _ trivial (fun _ => ?_)
                    clear hK K
                    refine wpAnyH_ready (rs := [1]) (by kernel_rfl) (by simp) ?_
                    refine AllReadyH.cons rfl (fun K hK => ?_) AllReadyH.nil
                    have xv := (HX2.out.c1.alloc (.cells #[.int .i64 1, .slice none 0 0, .int .i64 (-1), .slice (some ⟨gc, 0, none⟩) lc.length yc] 35)).g2.1
                    go_simp
                    refine hK.out _ _ trivial (fun _ => ?_)
                    clear hK K xv
                    refine wpAnyH_ready (rs := [12]) (by kernel_rfl) (by simp) ?_
                    refine AllReadyH.cons rfl (fun K hK => ?_) AllReadyH.nil
                    refine stepAppAt _ rfl (.tmp 46) (.tmp 56) 43 rfl (s + 2) 35 j0 (.agg #[.int .i64 0, .slice none 0 0, .int .i64 0, .slice none 0 0]) 4 64 Tryz.underlying43 hj hy0 hy1 hy2 rfl (by decide) (.slice am cl.meths.length dm) cl.meths.length (flatM l) (by simp [Act.eval]) (HX2.out.own.alloc _) ⟨u2.heap.size, 0, none⟩ 1 1 [.int .i64 1, .slice none 0 0, .int .i64 (-1), .slice (some ⟨gc, 0, none⟩) lc.length yc] (by simp [Act.eval]) rfl (cell_four_new _ _ _ _ _ _) (by simp [Value.oneCell']) (by unfold maxLen; omega) (by omega) (by have := HX2.out.lt.2.2; simp; omega) ?_
                    intro v3 w3 hown3 hgrow3 hnil3 hat3
                    obtain ⟨g3, d3, rfl⟩ := own_more hown3
                    obtain ⟨c3, hxc3, hb3⟩ := XC.meth (m := ⟨1, [], -1, lc⟩) HX2.out.c1 HX2.out.gf HX2.out.he HX2.out.own HX2.out.win HX2.out.h7 HX2.out.h8 HX1.out.lt.2.2 HMV.out HX1.out.lt.1 HX1.out.lt.2.1 hown3 hgrow3 hat3
                    obtain ⟨r3, q3⟩ := c3.g2
                    refine hK.out _ _ trivial (fun _ => ?_)
                    clear hK K
                    simp only [Act.put]
                    refine wpAnyH_take (i := 13) (v := ?_) rfl (by kernel_rfl) (by kernel_rfl) (by kernel_rfl) (fun _ _ _ h => h) (Or.inl ⟨by rfl, ?_⟩) trivial ?_
                    rotate_left 1
                    · intro w' _
                      go_simp
                      try with_reducible rfl
                    simp only [Act.put]
                    refine wpAnyH_ready (rs := [14]) (by kernel_rfl) (by simp) ?_
                    refine AllReadyH.cons rfl (fun K hK => ?_) AllReadyH.nil
                    go_simp
                    refine hK.out _ _ trivial (fun _ => ?_)
                    clear hK K
                    refine wpAnyH_done (by kernel_rfl) ?_ _
                    have HSN : Hid (ST B w c a len cap pb T s cs _ (w3.setCell ⟨s + 1, 2, none⟩ (.slice (some ⟨g3, 0, none⟩) (cl.meths.length + 1) d3))) := HT2.out.next hxc3 hb3
                    go_wp2_with fail
                    go_meet
                    exact ⟨rfl, { cl with meths := cl.meths ++ [⟨1, [], -1, lc⟩] }, few_if hi0 (few_snoc hfew.out ⟨by simp, hl42⟩), hsup.out, HSN.out⟩
          case rest =>
            clear hST hfew hsup
            obtain ⟨rfl, cl, hfew, hsup, hST⟩ := hcut
            obtain ⟨vf, vm, l, hxp⟩ := hST.out.xc.parts
            have x0 := hxp.c1.g0.1
            clear hxp vf vm l
            go_upto_region 13 with fail
            go_cut [6, 65] (fun p b u => p = .pointer (some ⟨s + 1, 0, none⟩) ∧ ∃ q : Bool, b = .bool q ∧ Hid (q = true → 0 ≤ cl.super) ∧ Hid (ST B w c a len cap pb T s cs cl u))
            case first =>
              by_cases hs0 : 0 ≤ cl.super
              · go_wp2_with fail
                refine (Cu.once_at B c wc _ a len cap 3 (Cu.At.start hST.out.cur)).mono ?_
                rintro e w4 ⟨q4, rfl, hA4⟩
                have HS4 : Hid (ST B w c a len cap pb T s cs cl w4) := hST.out.touch hA4
                clear hST hA4
                go_wp2_with fail
                go_meet
                exact ⟨rfl, q4, rfl, fun _ => hs0, HS4.out⟩
              · go_wp2_with fail
                go_meet
                exact ⟨rfl, false, rfl, fun h => by simp at h, hST.out⟩
            case rest =>
              clear hST x0
              obtain ⟨rfl, q, rfl, hq, hST⟩ := hcut
              go_upto_if 65 with fail
              go_cut [6, 7] (fun p k u => p = .pointer (some ⟨s + 1, 0, none⟩) ∧ ∃ cl, Hid (Few (if i = 0 then 2 else 1) 2 2 cl) ∧ Hid (ST B w c a len cap pb T s cs cl u))
              case first =>
                cases q
                · go_wp2_with fail
                  go_meet
                  exact ⟨rfl, cl, hfew.out, hST.out⟩
                · have hs0 : 0 ≤ cl.super := hq.out rfl
                  obtain ⟨j, hj'⟩ := Int.eq_ofNat_of_zero_le hs0
                  have hji : j < i := by have := hsup.out; omega
                  have hi0 : i ≠ 0 := by omega
                  have hjc : j < cs.length := by have := hcs.out; omega
                  obtain ⟨vf, vm, l, hxp⟩ := hST.out.xc.parts
                  have HX : Hid (XP s wc cl vf vm l) := hxp
                  have x0 : wc.cell? ⟨s + 1, 0, none⟩ = some (.int .i64 (j : Int)) := by rw [← hj']; exact hxp.c1.g0.1
                  have hcj := hst.out j cs[j] (List.getElem?_eq_getElem hjc)
                  obtain ⟨kk, hkk, hkl⟩ : ∃ kk : Nat, kk = (if j = 0 then 1 else 0) ∧ kk < cs[j].meths.length := ⟨_, rfl, by have := hcj.1; by_cases e : j = 0 <;> simp [e] at this ⊢ <;> omega⟩
                  have hmf : FewM cs[j].meths[kk] := hcj.2.2.2 _ (List.getElem_mem hkl)
                  obtain ⟨g, cp, b, o, d, va, vc, y0, y1, ⟨y2, y3, y4, y5⟩, hmv⟩ := hST.out.pc.meth (List.getElem?_eq_getElem hjc) (List.getElem?_eq_getElem hkl)
                  generalize cs[j].meths[kk] = m at *
                  have hml : cs[j].meths.length ≤ 3 := hcj.2.1
                  generalize cs[j].meths.length = ml at *
                  obtain ⟨av, nv, dv, rfl⟩ : ∃ av nv dv, va = .slice av nv dv := by obtain ⟨x, y, h⟩ := hmv.1.form; exact ⟨_, _, _, h⟩
                  obtain ⟨ac, nc, dc, rfl⟩ : ∃ av nv dv, vc = .slice av nv dv := by obtain ⟨x, y, h⟩ := front.form hmv.2; exact ⟨_, _, _, h⟩
                  have HMV0 : Hid (MV front (pb + 1) wc (.slice av nv dv) (.slice ac nc dc) m) := hmv
                  have hjn : (j : Int) < (cs.length : Int) := by omega
                  have hj0 : (0 : Int) ≤ (j : Int) := by omega
                  clear hmv hcj hxp hsup hs0 hq
                  have tail : ∀ (u2 : World) (x1 x2 : Option Addr) (z1 z2 : Nat), Hid (ST B w c a len cap pb T s cs cl u2) → Hid (XP s u2 cl vf vm l) → Hid (MV front wc.heap.size u2 (.slice x1 m.args.length z1) (.slice x2 m.code.length z2) m) → Hid (ST B w c a len cap pb T s cs { cl with meths := [m] } ((u2.alloc (.cells #[.int .i64 m.name, .slice x1 m.args.length z1, .int .i64 m.gives, .slice x2 m.code.length z2] 35)).setCell ⟨s + 1, 2, none⟩ (.slice (some ⟨u2.heap.size, 0, none⟩) 1 1))) := fun u2 x1 x2 z1 z2 h1 h2 h3 =>
                    h1.out.next (XC.only h2.out.c1 h2.out.gf h2.out.h8 HX.out.lt.2.2 h3.out HX.out.lt.2.1) (((Below.refl s u2).alloc (by have := h2.out.lt.2.2; omega) _).setCell (p := ⟨s + 1, 2, none⟩) (by show s ≤ s + 1; omega) _)
                  have HTL : Hid (∀ (u2 : World) (x1 x2 : Option Addr) (z1 z2 : Nat), Hid (ST B w c a len cap pb T s cs cl u2) → Hid (XP s u2 cl vf vm l) → Hid (MV front wc.heap.size u2 (.slice x1 m.args.length z1) (.slice x2 m.code.length z2) m) → Hid (ST B w c a len cap pb T s cs { cl with meths := [m] } ((u2.alloc (.cells #[.int .i64 m.name, .slice x1 m.args.length z1, .int .i64 m.gives, .slice x2 m.code.length z2] 35)).setCell ⟨s + 1, 2, none⟩ (.slice (some ⟨u2.heap.size, 0, none⟩) 1 1)))) := tail
                  clear tail
                  by_cases hjz : j = 0
                  · subst hjz
                    simp only [if_true] at hkk
                    subst hkk
                    go_wp2_with fail
                    refine (copy_st hmf hST.out HX.out HMV0.out).mono ?_
                    rintro e u2 ⟨x1, z1, x2, z2, rfl, HT2, HX2, HMV⟩
                    have HSN := HTL.out u2 x1 x2 z1 z2 HT2 HX2 HMV
                    obtain ⟨r3, q3⟩ := (HX2.out.c1.alloc (.cells #[.int .i64 m.name, .slice x1 m.args.length z1, .int .i64 m.gives, .slice x2 m.code.length z2] 35)).g2
                    clear HTL
                    go_wp2_with fail
                    go_meet
                    exact ⟨rfl, { cl with meths := [m] }, by rw [if_neg hi0]; exact few_only hfew.out hmf, HSN.out⟩
                  · simp only [hjz, if_false] at hkk
                    subst hkk
                    have hjb : ((j : Int) == 0) = false := by simp; omega
                    simp only [Nat.zero_mul, Nat.add_zero] at y2 y3 y4 y5
                    go_wp2_with fail
                    refine (copy_st hmf hST.out HX.out HMV0.out).mono ?_
                    rintro e u2 ⟨x1, z1, x2, z2, rfl, HT2, HX2, HMV⟩
                    have HSN := HTL.out u2 x1 x2 z1 z2 HT2 HX2 HMV
                    obtain ⟨r3, q3⟩ := (HX2.out.c1.alloc (.cells #[.int .i64 m.name, .slice x1 m.args.length z1, .int .i64 m.gives, .slice x2 m.code.length z2] 35)).g2
                    clear HTL
                    go_wp2_with fail
                    go_meet
                    exact ⟨rfl, { cl with meths := [m] }, by rw [if_neg hi0]; exact few_only hfew.out hmf, HSN.out⟩
              case rest =>
                clear hST hfew hsup hq
                obtain ⟨rfl, cl, hfew, hST⟩ := hcut
                go_wp2_with fail
                refine (Cu.once_at B c wc _ a len cap 3 (Cu.At.start hST.out.cur)).mono ?_
                rintro e w4 ⟨q4, rfl, hA4⟩
                have HS4 : Hid (ST B w c a len cap pb T s cs cl w4) := hST.out.touch hA4
                clear hST hA4
                go_upto_if 83 with fail
                go_cut [6] (fun p u => p = .pointer (some ⟨s + 1, 0, none⟩) ∧ ∃ cl, Hid (Few (if i = 0 then 2 else 1) 3 2 cl) ∧ Hid (ST B w c a len cap pb T s cs cl u))
                case first =>
                  cases q4
                  · go_wp2_with fail
                    go_meet
                    exact ⟨rfl, cl, hfew.out.wide (Nat.le_refl _) (by omega) (Nat.le_refl _), HS4.out⟩
                  · obtain ⟨vf, vm, l, hxp⟩ := HS4.out.xc.parts
                    obtain ⟨am, dm, rfl⟩ := hxp.form
                    have HX : Hid (XP s w4 cl vf (.slice am cl.meths.length dm) l) := hxp
                    have x0 := hxp.c1.g2.1
                    have hml : cl.meths.length ≤ 2 := hfew.out.2.1
                    have hbY : Below w4.heap.size w4 ((w4.alloc (.cells #[.int .i64 (-1), .int .i64 0] 2)).alloc (.cells #[.int .i64 2, .int .i64 2, .int .i64 0, .int .i64 20, .int .i64 0, .int .i64 0] 73)) := ((Below.refl _ _).alloc (Nat.le_refl _) _).alloc (by simp) _
                    have HTY : Hid (ST B w c a len cap pb T s cs cl ((w4.alloc (.cells #[.int .i64 (-1), .int .i64 0] 2)).alloc (.cells #[.int .i64 2, .int .i64 2, .int .i64 0, .int .i64 20, .int .i64 0, .int .i64 0] 73))) := HS4.out.touch ⟨Cu.touch_below hbY, HS4.out.at'.2.later hbY HS4.out.at'.2.2.1⟩
                    have HXY : Hid (XP s ((w4.alloc (.cells #[.int .i64 (-1), .int .i64 0] 2)).alloc (.cells #[.int .i64 2, .int .i64 2, .int .i64 0, .int .i64 20, .int .i64 0, .int .i64 0] 73)) cl vf (.slice am cl.meths.length dm) l) := HX.out.same (Same.on hbY (Nat.le_refl _))
                    have HMV : Hid (MV front w4.heap.size ((w4.alloc (.cells #[.int .i64 (-1), .int .i64 0] 2)).alloc (.cells #[.int .i64 2, .int .i64 2, .int .i64 0, .int .i64 20, .int .i64 0, .int .i64 0] 73)) (.slice (some ⟨w4.heap.size, 0, none⟩) 2 2) (.slice (some ⟨w4.heap.size + 1, 0, none⟩) 2 2) ⟨2, [-1, 0], 0, [(2, 2, 0), (20, 0, 0)]⟩) := by
                      refine ⟨SI.on (si_lit (l := [-1, 0]) (Nat.le_refl _) _ rfl _) (Keep.of ((Below.refl _ _).alloc (Nat.le_refl _) _)), ?_⟩
                      have h := got_lit (w4.alloc (.cells #[.int .i64 (-1), .int .i64 0] 2)) w4.heap.size (by simp) [(2, 2, 0), (20, 0, 0)] 2 73 #[.int .i64 2, .int .i64 2, .int .i64 0, .int .i64 20, .int .i64 0, .int .i64 0] rfl
                      simp only [World.size_alloc] at h
                      exact h
                    have HCF : Hid (∀ (j : Nat) (u : Value), [Value.int .i64 2, .slice (some ⟨w4.heap.size, 0, none⟩) 2 2, .int .i64 0, .slice (some ⟨w4.heap.size + 1, 0, none⟩) 2 2][j]? = some u → (((w4.alloc (.cells #[.int .i64 (-1), .int .i64 0] 2)).alloc (.cells #[.int .i64 2, .int .i64 2, .int .i64 0, .int .i64 20, .int .i64 0, .int .i64 0] 73)).alloc (.cells #[.int .i64 2, .slice (some ⟨w4.heap.size, 0, none⟩) 2 2, .int .i64 0, .slice (some ⟨w4.heap.size + 1, 0, none⟩) 2 2] 35)).cell? ((⟨w4.heap.size + 1 + 1, 0, none⟩ : Addr).add j) = some u) := by
                      have h := cell_four_new ((w4.alloc (.cells #[.int .i64 (-1), .int .i64 0] 2)).alloc (.cells #[.int .i64 2, .int .i64 2, .int .i64 0, .int .i64 20, .int .i64 0, .int .i64 0] 73)) (.int .i64 2) (.slice (some ⟨w4.heap.size, 0, none⟩) 2 2) (.int .i64 0) (.slice (some ⟨w4.heap.size + 1, 0, none⟩) 2 2) 35
                      simp only [World.size_alloc] at h
                      exact h
                    have hltW := hxp.lt
                    clear hxp hbY
                    go_wp2_with (at_builtin; refine wpList_append_own_at _ rfl _ _ 43 rfl (s + 2) 35 j0 (.agg #[.int .i64 0, .slice none 0 0, .int .i64 0, .slice none 0 0]) 4 64 Tryz.underlying43 hj hy0 hy1 hy2 rfl (by decide) (.slice am cl.meths.length dm) cl.meths.length (flatM l) rfl (HXY.out.own.alloc _) ⟨w4.heap.size + 1 + 1, 0, none⟩ 1 1 [.int .i64 2, .slice (some ⟨w4.heap.size, 0, none⟩) 2 2, .int .i64 0, .slice (some ⟨w4.heap.size + 1, 0, none⟩) 2 2] rfl rfl HCF.out (by simp [Value.oneCell']) (by unfold maxLen; omega) (by omega) (by have := hltW.2.2; simp; omega) ?_)
                    intro v3 w3 hown3 hgrow3 hnil3 hat3
                    obtain ⟨g3, d3, rfl⟩ := own_more hown3
                    obtain ⟨c3, hxc3, hb3⟩ := XC.meth (L := w4.heap.size) (m := ⟨2, [-1, 0], 0, [(2, 2, 0), (20, 0, 0)]⟩) HXY.out.c1 HXY.out.gf HXY.out.he HXY.out.own HXY.out.win HXY.out.h7 HXY.out.h8 hltW.2.2 HMV.out hltW.1 hltW.2.1 hown3 hgrow3 (by simpa using hat3)
                    obtain ⟨r3, q3⟩ := c3.g2
                    have HSN : Hid (ST B w c a len cap pb T s cs _ (w3.setCell ⟨s + 1, 2, none⟩ (.slice (some ⟨g3, 0, none⟩) (cl.meths.length + 1) d3))) := HTY.out.next hxc3 hb3
                    clear hown3 hgrow3 hnil3 hat3 c3 hxc3 hb3 HXY HTY HCF HMV x0
                    go_wp2_with fail
                    go_meet
                    exact ⟨rfl, _, (few_snoc hfew.out ⟨by simp, by simp⟩).wide (by omega) (by omega) (Nat.le_refl _), HSN.out⟩
                case rest =>
                  clear HS4 hfew
                  obtain ⟨rfl, cl, hfew, hST⟩ := hcut
                  obtain ⟨vf, vm, l, hxp⟩ := hST.out.xc.parts
                  have HXD : Hid (XD s wc vf vm cl) := ⟨hxp.gf, ⟨l, hxp.he, hxp.own, hxp.win⟩, hxp.h7, hxp.h8⟩
                  obtain ⟨am, dm, rfl⟩ := hxp.form
                  obtain ⟨gf, df, rfl⟩ := hxp.formf
                  obtain ⟨x0, _⟩ := hxp.c1.g0
                  obtain ⟨x1, _⟩ := hxp.c1.g1
                  obtain ⟨x2, _⟩ := hxp.c1.g2
                  clear hxp
                  obtain ⟨hTw', v, lk, Wk, he, hcp, hpT', hown, hgT, hkd⟩ := hST.out.pc
                  obtain ⟨ak, dk, rfl⟩ : ∃ a d, v = .slice a cs.length d := by
                    obtain ⟨_, ⟨hv, hn⟩ | ⟨g, cap, cur, hv, _⟩⟩ := hown
                    · exact ⟨none, 0, by rw [hv, hn]⟩
                    · exact ⟨_, _, hv⟩
                  obtain ⟨p0, _⟩ := hcp.g0
                  have HOWN : Hid (wc.ownsRow (pb + 1) 45 3 (.slice ak cs.length dk) cs.length (flatK lk)) := hown
                  have HKD : Hid (KD (pb + 1) T (.slice ak cs.length dk) wc lk Wk) := hkd
                  have HGT : Hid (∀ g, (Value.slice ak cs.length dk).ownBlock = some g → g < T) := hgT
                  have HCP : Hid (Cells wc pb [.slice ak cs.length dk]) := hcp
                  have HHE : Hid (lk.map (·.1) = cs) := he
                  have hle := hST.out.le
                  have hcl4 : cs.length ≤ 4 := by have := hcs.out; omega
                  clear hown hkd hgT hcp he
                  go_wp2_with (at_builtin; refine wpList_append_own_at _ rfl _ _ 24 rfl (pb + 1) 45 jk (.agg #[.int .i64 0, .slice none 0 0, .slice none 0 0]) 3 56 Tryz.underlying24 hjk hk0 hk1 hk2 rfl (by decide) (.slice ak cs.length dk) cs.length (flatK lk) rfl (HOWN.out.alloc _) ⟨wc.heap.size, 0, none⟩ 1 1 [.int .i64 cl.super, .slice (some ⟨gf, 0, none⟩) cl.fields.length df, .slice am cl.meths.length dm] rfl rfl (cell_three_new _ _ _ _ _) (by simp [Value.oneCell']) (by unfold maxLen; omega) (by omega) (by simp; omega) ?_)
                  intro v3 w3 hown3 hgrow3 hnil3 hat3
                  obtain ⟨g3, d3, rfl⟩ := own_more hown3
                  obtain ⟨c3, hpc3, hb3⟩ := PC.class HCP.out hpT' HHE.out HOWN.out HGT.out HKD.out hle HXD.out hTw' hown3 hgrow3 (by simpa using hat3)
                  obtain ⟨r3, q3⟩ := c3.g0
                  have HPN : Hid (PC pb _ (w3.setCell ⟨pb, 0, none⟩ (.slice (some ⟨g3, 0, none⟩) (cs.length + 1) d3)) (cs ++ [cl])) := hpc3
                  have HAN : Hid (Cu.At B w (w3.setCell ⟨pb, 0, none⟩ (.slice (some ⟨g3, 0, none⟩) (cs.length + 1) d3)) c a len cap) := hST.out.at'.low hcw (hb3.mono (by omega))
                  have HRN : Hid (Cells (w3.setCell ⟨pb, 0, none⟩ (.slice (some ⟨g3, 0, none⟩) (cs.length + 1) d3)) w.heap.size [.slice none 0 0]) := cells_move hST.out.rb (hb3.block _ hsz1)
                  have HSD : Hid (Stand (cs ++ [cl])) := stand_snoc hst.out hcs.out hfew.out
                  clear hown3 hgrow3 hnil3 hat3 c3 hpc3 hb3 HOWN HKD HGT HCP HHE HXD hst hfew hST x0 x1 x2 p0
                  go_wp2
                  go_roundg (n - (i + 1))
                  case measure => omega
                  case rel => exact ⟨i + 1, cs ++ [cl], _, by go_num, by omega, by show _ = _; have := hcs.out; simp; omega, HSD.out, HPN.out, HAN.out, HRN.out⟩
    · have hin : i = n := by omega
      obtain ⟨hTw', v, lk, Wk, he, hcp, hpT', hown, hgT, hkd⟩ := hPC.out
      have hn0 : 0 < cs.length := by have := hcs.out; omega
      have hn4' : cs.length ≤ 4 := by have := hcs.out; omega
      have hown' := hown
      obtain ⟨_, ⟨hv, hz⟩ | ⟨g, cp, cur, rfl, _⟩⟩ := hown'
      · omega
      have hll : lk.length = cs.length := by rw [← he]; simp
      obtain ⟨p0, _⟩ := hcp.g0
      obtain ⟨r0, q0⟩ := hR.out.g0
      have hS : Same (pb + 1) wr.heap.size wr (wr.setCell ⟨w.heap.size, 0, none⟩ (.slice (some ⟨g, 0, none⟩) cs.length cp)) := Same.set wr _ (.inl (by omega))
      have HD : Hid (DrewP B w c a len cap (.returned (.agg #[.slice (some ⟨g, 0, none⟩) cs.length cp])) (wr.setCell ⟨w.heap.size, 0, none⟩ (.slice (some ⟨g, 0, none⟩) cs.length cp))) := by
        refine ⟨g, cp, pb + 1, T, lk, Wk, by rw [hll], by omega, by omega, by omega, by rw [he]; exact hst.out, ?_, ?_, by simpa using hTw', hAt.out.set hcw (p := ⟨w.heap.size, 0, none⟩) (Nat.le_refl _) _⟩
        · rw [hll]; exact own_move hown (fun k hk => by have := hown.lt k hk; exact hS.2 k this.1 this.2)
        · rw [hll]; exact hkd.same (hS.sub (Nat.le_refl _) hTw')
      have e0 := (hR.out.s0 (.slice (some ⟨g, 0, none⟩) cs.length cp)).g0.1
      have hii : ¬ (i : Int) < (n : Int) := by omega
      clear hS hown hkd hgT he hPC hAt hR hst hll hcp hin
      go_wp2
      refine bodyPost_ret (v := .agg #[.slice (some ⟨g, 0, none⟩) cs.length cp]) (by simp [results, Tryz.results43, go_sem, e0]) rfl ?_
      exact HD.out
end Pg
end Go.Proofs.YtbgbddahniacbaaGreatDoor
