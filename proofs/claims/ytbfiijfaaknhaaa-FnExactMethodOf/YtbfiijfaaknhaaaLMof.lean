/- The walk of the law FnExactMethodOf. -/
import Derived.Test.YtbfiijfaaknhaaaPc1
import Derived.Test.YtbfiijfaaknhaaaPc3
import Derived.Test.YtbfiijfaaknhaaaPc4
import Derived.Test.YtbfiijfaaknhaaaPm1
import Derived.Deep.RegionWith
namespace Go.Proofs.Ytbfiijfaaknhaaa
namespace Pg
open Go.ChangeShapes Go.WideShapes Go.ChangeAt Go.RowKit St

/-- Both sides' answer in one: the method and whether there is one. -/
def APost (m : Meth) (q : Bool) (w : World) (e : Ending) (w' : World) : Prop := ∃ x1 y1 x2 y2, e = .returned (.tuple #[.agg #[.int .i64 m.name, .slice x1 m.args.length y1, .int .i64 m.gives, .slice x2 m.code.length y2], .bool q]) ∧ AnsM w.heap.size w' (.slice x1 m.args.length y1) (.slice x2 m.code.length y2) m ∧ Below w.heap.size w w'
theorem ans_of (p : Prg) (t name : Int) (hsz : szP p ≤ 1048576) : ∃ (m : Meth) (q : Bool), m.args.length + m.code.length ≤ 1048576 ∧ ∀ w e w', MPost p t name w e w' → APost m q w e w' := by
  cases h : methF p t name with
  | none =>
    refine ⟨⟨0, [], 0, []⟩, false, by simp, fun w e w' hm => ?_⟩
    obtain ⟨⟨m, _, _, _, _, hx, _⟩ | ⟨_, he⟩, hb⟩ := hm
    · rw [h] at hx; simp at hx
    · exact ⟨none, 0, none, 0, he, ⟨w.heap.size, Nat.le_refl _, hb.size, .inr ⟨rfl, rfl⟩, .inr ⟨rfl, rfl⟩⟩, hb⟩
  | some m =>
    refine ⟨m, true, ?_, fun w e w' hm => ?_⟩
    · unfold methF at h
      split at h
      · cases hc : p[t.toNat]? with
        | none => rw [hc] at h; simp at h
        | some c =>
          rw [hc] at h
          have h1 := szC_le (List.mem_of_getElem? hc)
          have h2 := szM_le (List.mem_of_find?_eq_some h)
          have e1 : szC c = c.fields.length + szMs c.meths := rfl
          have e2 : szM m = m.args.length + m.code.length := rfl
          omega
      · simp at h
    · obtain ⟨⟨m', x1, y1, x2, y2, hx, he, ha⟩ | ⟨hx, _⟩, hb⟩ := hm
      · rw [h] at hx
        obtain rfl : m = m' := by simpa using hx
        exact ⟨x1, y1, x2, y2, he, ha, hb⟩
      · rw [h] at hx; simp at hx

set_option maxRecDepth 100000 in
set_option maxHeartbeats 4000000 in
theorem mofLaw (a : Option Addr) (cap : Nat) (p : Prg) (t name : Int) (hs : SaneP p) (w : World) (hin : SK wide 0 w (.slice a p.length cap) p) :
    Calls Try.prog 3 #[.agg #[.slice a p.length cap], .int .i64 t, .int .i64 name] w fun e w' => e = .returned (.bool true) ∧ Below w.heap.size w w' := by
  have HIN : Hid (SK wide 0 w (.slice a p.length cap) p) := hin
  have HS : Hid (SaneP p) := hs
  clear hin hs
  obtain ⟨W, hW⟩ : ∃ W, W = w.alloc (.cells #[.slice a p.length cap] 24) := ⟨_, rfl⟩
  have hwW : Below w.heap.size w W := by rw [hW]; exact (Below.refl _ _).alloc (Nat.le_refl _) _
  have L0 : Hid (Cells W w.heap.size [.slice a p.length cap]) := by rw [hW]; exact Cells.new w _ rfl _ _
  by_cases hsz : (szP p : Int) ≤ 1048576
  · have HSN : Hid (szP p ≤ 1048576) := by show _ ≤ _; omega
    have HSM : Hid (SmallP p) := SmallP.of HSN.out
    have HSZ : Hid (szR (szP p) 1048576 = 1048576 - (szP p : Int)) := szR_yes hsz
    have hq : 0 ≤ 1048576 - (szP p : Int) := by omega
    obtain ⟨m, q, hml, HSF, HIF⟩ : ∃ (m : Meth) (q : Bool), m.args.length + m.code.length ≤ 1048576 ∧
        Hid (∀ B v d w, SK front B w (.slice v p.length d) p → Calls Try.prog 8 #[.agg #[.slice v p.length d], .int .i64 t, .int .i64 name] w fun e w' => APost m q w e w') ∧
        Hid (∀ B v d w, SK front B w (.slice v p.length d) p → Calls Try.prog 10 #[.agg #[.slice v p.length d], .int .i64 t, .int .i64 name] w fun e w' => APost m q w e w') := by
      obtain ⟨m, q, h1, h2⟩ := ans_of p t name HSN.out
      exact ⟨m, q, h1, fun B v d w h => (specMethodOf B p v d t name HSM.out w h).mono fun e w' hp => h2 _ _ _ hp, fun B v d w h => (implMethodOf B p v d t name HSM.out w h).mono fun e w' hp => h2 _ _ _ hp⟩
    have HML : Hid (m.args.length + m.code.length ≤ 1048576) := hml
    have HMS : Hid (SmallM m) := by show SmallM m; exact ⟨by omega, by omega⟩
    clear hml
    go_enter Try.func3, Try.ntmps3
    go_wp2_with fail
    rw [← hW]
    clear hW
    refine (szProgram wide 0 a cap p HS.out _ (SK.on HIN.out (Keep.of hwW))).mono ?_
    rw [HSZ.out]
    rintro e w1 ⟨rfl, hb1⟩
    have hw1 : Below w.heap.size w w1 := below_over hwW hb1
    have hW1 : Below W.heap.size W w1 := hb1
    obtain ⟨c1, _⟩ := (L0.out.on hW1).g0
    clear hb1 HSZ
    go_wp2_with fail
    refine (toProgram p a cap HSM.out _ (SK.on HIN.out (Keep.of hw1))).mono ?_
    rintro e w2 ⟨v2, rfl, hv2, hb2⟩
    obtain ⟨a2, d2, rfl⟩ := hv2.form
    have hw2 : Below w.heap.size w w2 := below_over hw1 hb2
    have hW2 : Below W.heap.size W w2 := below_over hW1 hb2
    have HV2 : Hid (SK front w1.heap.size w2 (.slice a2 p.length d2) p) := hv2
    clear hb2 hv2 c1
    go_wp2_with fail
    refine (HSF.out w1.heap.size a2 d2 _ HV2.out).mono ?_
    rintro e w3 ⟨xs, ys, us, vs, rfl, ⟨Ms, hMs1, hMs2, hgs, hcs⟩, hb3⟩
    obtain ⟨U3, hU3⟩ : ∃ U3, U3 = w3.alloc (.cells #[.int .i64 m.name, .slice xs m.args.length ys, .int .i64 m.gives, .slice us m.code.length vs] 29) := ⟨_, rfl⟩
    have hbU : Below w3.heap.size w3 U3 := by rw [hU3]; exact (Below.refl _ _).alloc (Nat.le_refl _) _
    have hw3 : Below w.heap.size w U3 := below_over (below_over hw2 hb3) hbU
    have hW3 : Below W.heap.size W U3 := below_over (below_over hW2 hb3) hbU
    have hzU : U3.heap.size = w3.heap.size + 1 := by rw [hU3]; simp
    have BS : Hid (Cells U3 w3.heap.size [.int .i64 m.name, .slice xs m.args.length ys, .int .i64 m.gives, .slice us m.code.length vs]) := by rw [hU3]; exact Cells.new w3 _ rfl _ _
    have GS : Hid (GZ w2.heap.size Ms U3 (.slice xs m.args.length ys) m.args) := hgs.on hbU
    have CS' : Hid (CZ Ms w3.heap.size U3 (.slice us m.code.length vs) m.code) := hcs.on hbU
    obtain ⟨c3, _⟩ := (L0.out.on hW3).g0
    have HZU : Hid (U3.heap.size = w3.heap.size + 1) := hzU
    clear hb3 HV2 hgs hcs hbU hzU
    rw [hU3] at c3
    go_wp2_with fail
    rw [← hU3]
    clear hU3
    refine (toProgram p a cap HSM.out _ (SK.on HIN.out (Keep.of hw3))).mono ?_
    rintro e w4 ⟨v4, rfl, hv4, hb4⟩
    obtain ⟨a4, d4, rfl⟩ := hv4.form
    have hw4 : Below w.heap.size w w4 := below_over hw3 hb4
    have hW4 : Below W.heap.size W w4 := below_over hW3 hb4
    have hz34 : U3.heap.size ≤ w4.heap.size := hb4.size
    have SH4 : Hid (ShK U3.heap.size w4.heap.size w4 (.slice a4 p.length d4) p) := shK_of hv4
    obtain ⟨W5, hW5⟩ : ∃ W5, W5 = w4.alloc (.cells #[.slice a4 p.length d4] 34) := ⟨_, rfl⟩
    have hb5 : Below w4.heap.size w4 W5 := by rw [hW5]; exact (Below.refl _ _).alloc (Nat.le_refl _) _
    have hz5 : w4.heap.size ≤ W5.heap.size := hb5.size
    have hb45 : Below U3.heap.size U3 W5 := below_over hb4 hb5
    have X5 : Hid (Cells W5 w4.heap.size [.slice a4 p.length d4]) := by rw [hW5]; exact Cells.new w4 _ rfl _ _
    have HV5 : Hid (SK front U3.heap.size W5 (.slice a4 p.length d4) p) := SK.on hv4 (Keep.of hb5)
    have hw5 : Below w.heap.size w W5 := below_over hw4 hb5
    have hWW5 : Below W.heap.size W W5 := below_over hW4 hb5
    have SH5 : Hid (ShK U3.heap.size w4.heap.size W5 (.slice a4 p.length d4) p) := SH4.out.mrk (Mrk.of hb5)
    have BS5 : Hid (Cells W5 w3.heap.size [.int .i64 m.name, .slice xs m.args.length ys, .int .i64 m.gives, .slice us m.code.length vs]) := BS.out.on hb45
    have GS5 : Hid (GZ w2.heap.size Ms W5 (.slice xs m.args.length ys) m.args) := GS.out.on hb45
    have CS5 : Hid (CZ Ms w3.heap.size W5 (.slice us m.code.length vs) m.code) := CS'.out.on hb45
    clear hb4 hv4 c3 hb5 SH4 BS GS CS' hb45
    go_wp2_with fail
    rw [← hW5]
    clear hW5
    refine (HIF.out U3.heap.size a4 d4 _ HV5.out).mono ?_
    rintro e w6 ⟨xi, yi, ui, vi, rfl, ⟨Mi, hMi1, hMi2, hgi, hci⟩, hb6⟩
    obtain ⟨U6, hU6⟩ : ∃ U6, U6 = w6.alloc (.cells #[.int .i64 m.name, .slice xi m.args.length yi, .int .i64 m.gives, .slice ui m.code.length vi] 29) := ⟨_, rfl⟩
    have hbU6 : Below w6.heap.size w6 U6 := by rw [hU6]; exact (Below.refl _ _).alloc (Nat.le_refl _) _
    have hb56 : Below W5.heap.size W5 U6 := below_over hb6 hbU6
    have hw6 : Below w.heap.size w U6 := below_over hw5 hb56
    have hW6 : Below W.heap.size W U6 := below_over hWW5 hb56
    have HZU6 : Hid (U6.heap.size = w6.heap.size + 1) := by show _ = _; rw [hU6]; simp
    have BI6 : Hid (Cells U6 w6.heap.size [.int .i64 m.name, .slice xi m.args.length yi, .int .i64 m.gives, .slice ui m.code.length vi]) := by rw [hU6]; exact Cells.new w6 _ rfl _ _
    have GI6 : Hid (GZ W5.heap.size Mi U6 (.slice xi m.args.length yi) m.args) := hgi.on hbU6
    have CI6 : Hid (CZ Mi w6.heap.size U6 (.slice ui m.code.length vi) m.code) := hci.on hbU6
    have X6 : Hid (Cells U6 w4.heap.size [.slice a4 p.length d4]) := X5.out.on hb56
    have HV6 : Hid (SK front U3.heap.size U6 (.slice a4 p.length d4) p) := SK.on HV5.out (Keep.of hb56)
    have SH6 : Hid (ShK U3.heap.size w4.heap.size U6 (.slice a4 p.length d4) p) := SH5.out.mrk (Mrk.of hb56)
    have BS6 : Hid (Cells U6 w3.heap.size [.int .i64 m.name, .slice xs m.args.length ys, .int .i64 m.gives, .slice us m.code.length vs]) := BS5.out.on hb56
    have GS6 : Hid (GZ w2.heap.size Ms U6 (.slice xs m.args.length ys) m.args) := GS5.out.on hb56
    have CS6 : Hid (CZ Ms w3.heap.size U6 (.slice us m.code.length vs) m.code) := CS5.out.on hb56
    have hz56 := hb6.size
    obtain ⟨i0, _⟩ := BI6.out.g0
    obtain ⟨i1, _⟩ := BI6.out.g1
    obtain ⟨i2, _⟩ := BI6.out.g2
    obtain ⟨i3, _⟩ := BI6.out.g3
    obtain ⟨s0, _⟩ := BS6.out.g0
    obtain ⟨s1, _⟩ := BS6.out.g1
    obtain ⟨s2, _⟩ := BS6.out.g2
    obtain ⟨s3, _⟩ := BS6.out.g3
    clear hb6 HV5 X5 SH5 BS5 GS5 CS5 hgi hci hbU6 hb56
    rw [hU6] at i0 i1 i2 i3 s0 s1 s2 s3
    go_wp2_with fail
    rw [← hU6]
    rw [← hU6] at i0 i1 i2 i3 s0 s1 s2 s3
    clear hU6
    refine (eqMethodZ W5.heap.size Mi w6.heap.size w2.heap.size Ms w3.heap.size m xi xs ui us yi ys vi vs HMS.out _ GI6.out CI6.out GS6.out CS6.out).mono ?_
    rintro e w7 ⟨rfl, hb7⟩
    have hw7 : Below w.heap.size w w7 := below_over hw6 hb7
    have hW7 : Below W.heap.size W w7 := below_over hW6 hb7
    have X7 : Hid (Cells w7 w4.heap.size [.slice a4 p.length d4]) := X6.out.on hb7
    have HV7 : Hid (SK front U3.heap.size w7 (.slice a4 p.length d4) p) := SK.on HV6.out (Keep.of hb7)
    have SH7 : Hid (ShK U3.heap.size w4.heap.size w7 (.slice a4 p.length d4) p) := SH6.out.mrk (Mrk.of hb7)
    have BI7 : Hid (Cells w7 w6.heap.size [.int .i64 m.name, .slice xi m.args.length yi, .int .i64 m.gives, .slice ui m.code.length vi]) := BI6.out.on hb7
    have GI7 : Hid (GZ W5.heap.size Mi w7 (.slice xi m.args.length yi) m.args) := GI6.out.on hb7
    have CI7 : Hid (CZ Mi w6.heap.size w7 (.slice ui m.code.length vi) m.code) := CI6.out.on hb7
    have BS7 : Hid (Cells w7 w3.heap.size [.int .i64 m.name, .slice xs m.args.length ys, .int .i64 m.gives, .slice us m.code.length vs]) := BS6.out.on hb7
    have GS7 : Hid (GZ w2.heap.size Ms w7 (.slice xs m.args.length ys) m.args) := GS6.out.on hb7
    have CS7 : Hid (CZ Ms w3.heap.size w7 (.slice us m.code.length vs) m.code) := CS6.out.on hb7
    obtain ⟨c7, _⟩ := (L0.out.on hW7).g0
    obtain ⟨x7, _⟩ := X7.out.g0
    have lx : w4.heap.size < w7.heap.size := cell_lt x7
    clear hb7 HV6 X6 SH6 BI6 GI6 CI6 BS6 GS6 CS6 hw6 hW6 i0 i1 i2 i3 s0 s1 s2 s3
    go_wp2_with fail
    go_region_with (first
      | (go_at_call 9; refine (toProgram p a cap HSM.out _ ?hx).mono ?_; (case hx => exact SK.on HIN.out (Keep.of hw7.drew)); rintro e w8 ⟨v8, rfl, hv8, hb8⟩; have x8 := (hb8.cell (p := ⟨w4.heap.size, 0, none⟩) lx).trans x7)
      | (go_at_call 12; have q3 := SK.on HV7.out (Keep.of (below_over (Below.refl _ _).drew hb8)); refine (eqProgram U3.heap.size _ (.slice a4 p.length d4) _ p HSM.out _ q3 hv8).mono ?_; rintro e w9 ⟨rfl, hb9⟩))
    all_goals
      have hb79 : Below w7.heap.size w7 w9 := below_over (below_over (Below.refl _ _).drew hb8) hb9
      have hw9 : Below w.heap.size w w9 := below_over hw7 hb79
      have hW9 : Below W.heap.size W w9 := below_over hW7 hb79
      obtain ⟨x9, _⟩ := (X7.out.on hb79).g0
      have SH9 : Hid (ShK U3.heap.size w4.heap.size w9 (.slice a4 p.length d4) p) := SH7.out.mrk (Mrk.of hb79)
      have BI9 : Hid (Cells w9 w6.heap.size [.int .i64 m.name, .slice xi m.args.length yi, .int .i64 m.gives, .slice ui m.code.length vi]) := BI7.out.on hb79
      have GI9 : Hid (GZ W5.heap.size Mi w9 (.slice xi m.args.length yi) m.args) := GI7.out.on hb79
      have CI9 : Hid (CZ Mi w6.heap.size w9 (.slice ui m.code.length vi) m.code) := CI7.out.on hb79
      have BS9 : Hid (Cells w9 w3.heap.size [.int .i64 m.name, .slice xs m.args.length ys, .int .i64 m.gives, .slice us m.code.length vs]) := BS7.out.on hb79
      have GS9 : Hid (GZ w2.heap.size Ms w9 (.slice xs m.args.length ys) m.args) := GS7.out.on hb79
      have CS9 : Hid (CZ Ms w3.heap.size w9 (.slice us m.code.length vs) m.code) := CS7.out.on hb79
      have hz9 : w6.heap.size < w9.heap.size := cell_lt BI9.out.g0.1
      clear hb8 hb9 hv8 x7 c7 q3 x8 hb79 SH7 BI7 GI7 CI7 BS7 GS7 CS7 HV7 X7 hw7 hW7 lx
      go_wp2_with fail
      refine (markProgram' U3.heap.size w4.heap.size a4 d4 p HSN.out _ SH9.out).mono ?_
      rintro e wD ⟨rfl, hmD⟩
      have hzW : W.heap.size ≤ U3.heap.size := hW3.size
      have hzw : w.heap.size ≤ U3.heap.size := hw3.size
      have HZ3 := HZU.out
      have HZ6 := HZU6.out
      have hwD : Below w.heap.size w wD := hw9.trans (hmD.below hzw hw9.size)
      have hWD : Below W.heap.size W wD := hW9.trans (hmD.below hzW hW9.size)
      have BID : Hid (Cells wD w6.heap.size [.int .i64 m.name, .slice xi m.args.length yi, .int .i64 m.gives, .slice ui m.code.length vi]) := BI9.out.mrk hmD (.inr (by omega))
      have GID : Hid (GZ W5.heap.size Mi wD (.slice xi m.args.length yi) m.args) := GI9.out.mrk hmD (.inr (by omega))
      have CID : Hid (CZ Mi w6.heap.size wD (.slice ui m.code.length vi) m.code) := CI9.out.mrk hmD (.inr (by omega))
      have BSD : Hid (Cells wD w3.heap.size [.int .i64 m.name, .slice xs m.args.length ys, .int .i64 m.gives, .slice us m.code.length vs]) := BS9.out.mrk hmD (.inl (by omega))
      have GSD : Hid (GZ w2.heap.size Ms wD (.slice xs m.args.length ys) m.args) := GS9.out.mrk hmD (.inl (by omega))
      have CSD : Hid (CZ Ms w3.heap.size wD (.slice us m.code.length vs) m.code) := CS9.out.mrk hmD (.inl (by omega))
      have hzD : w6.heap.size < wD.heap.size := Nat.lt_of_lt_of_le hz9 hmD.size
      obtain ⟨i0, _⟩ := BID.out.g0
      obtain ⟨i1, _⟩ := BID.out.g1
      obtain ⟨i2, _⟩ := BID.out.g2
      obtain ⟨i3, _⟩ := BID.out.g3
      obtain ⟨s0, _⟩ := BSD.out.g0
      obtain ⟨s1, _⟩ := BSD.out.g1
      obtain ⟨s2, _⟩ := BSD.out.g2
      obtain ⟨s3, _⟩ := BSD.out.g3
      clear hmD BI9 GI9 CI9 BS9 GS9 CS9 SH9 x9 hw9 hW9 HZ3 HZ6
      generalize 1 + cntP p = cnt at *
      have hneg : ¬ ((cnt : Int) < 0) := by omega
      go_wp2_with fail
      refine (eqMethodZ W5.heap.size Mi w6.heap.size w2.heap.size Ms w3.heap.size m xi xs ui us yi ys vi vs HMS.out _ GID.out CID.out GSD.out CSD.out).mono ?_
      rintro e wE ⟨rfl, hbE⟩
      have hwE : Below w.heap.size w wE := below_over hwD hbE
      have hWE : Below W.heap.size W wE := below_over hWD hbE
      have BIE : Hid (Cells wE w6.heap.size [.int .i64 m.name, .slice xi m.args.length yi, .int .i64 m.gives, .slice ui m.code.length vi]) := BID.out.on hbE
      have GIE : Hid (GZ W5.heap.size Mi wE (.slice xi m.args.length yi) m.args) := GID.out.on hbE
      have CIE : Hid (CZ Mi w6.heap.size wE (.slice ui m.code.length vi) m.code) := CID.out.on hbE
      have BSE : Hid (Cells wE w3.heap.size [.int .i64 m.name, .slice xs m.args.length ys, .int .i64 m.gives, .slice us m.code.length vs]) := BSD.out.on hbE
      have GSE : Hid (GZ w2.heap.size Ms wE (.slice xs m.args.length ys) m.args) := GSD.out.on hbE
      have CSE : Hid (CZ Ms w3.heap.size wE (.slice us m.code.length vs) m.code) := CSD.out.on hbE
      have hzE : w6.heap.size < wE.heap.size := Nat.lt_of_lt_of_le hzD hbE.size
      obtain ⟨j0, _⟩ := BIE.out.g0
      obtain ⟨j1, _⟩ := BIE.out.g1
      obtain ⟨j2, _⟩ := BIE.out.g2
      obtain ⟨j3, _⟩ := BIE.out.g3
      clear hbE BID GID CID BSD GSD CSD hwD hWD i0 i1 i2 i3 s0 s1 s2 s3
      go_wp2_with fail
      refine (markMethodZ W5.heap.size Mi w6.heap.size m xi ui yi vi HML.out wE hMi1 hMi2 (Nat.le_of_lt hzE) GIE.out CIE.out).mono ?_
      rintro e wF ⟨rfl, gF, cF', bF, kF⟩
      have HZ3 := HZU.out
      have hwF : Below w.heap.size w wF := hwE.trans (below_less bF (by have := hw5.size; omega))
      have hWF : Below W.heap.size W wF := hWE.trans (below_less bF (by have := hWW5.size; omega))
      have BIF : Hid (Cells wF w6.heap.size [.int .i64 m.name, .slice xi m.args.length yi, .int .i64 m.gives, .slice ui m.code.length vi]) := BIE.out.keep kF (Nat.le_refl _)
      have GIF : Hid (GZ W5.heap.size Mi wF (.slice xi m.args.length yi) (imarks 1 m.args.length)) := gF
      have CIF : Hid (CZ Mi w6.heap.size wF (.slice ui m.code.length vi) (marksM (1 + m.args.length) m.code.length)) := cF'
      have BSF : Hid (Cells wF w3.heap.size [.int .i64 m.name, .slice xs m.args.length ys, .int .i64 m.gives, .slice us m.code.length vs]) := BSE.out.low bF (by omega)
      have GSF : Hid (GZ w2.heap.size Ms wF (.slice xs m.args.length ys) m.args) := GSE.out.low bF (by omega)
      have CSF : Hid (CZ Ms w3.heap.size wF (.slice us m.code.length vs) m.code) := CSE.out.low bF (by omega)
      obtain ⟨k0, _⟩ := BIF.out.g0
      obtain ⟨k1, _⟩ := BIF.out.g1
      obtain ⟨k2, _⟩ := BIF.out.g2
      obtain ⟨k3, _⟩ := BIF.out.g3
      clear gF cF' bF kF BIE GIE CIE BSE GSE CSE hwE hWE j0 j1 j2 j3 HZ3
      generalize hqq : 1 + m.args.length + 3 * m.code.length = mq at *
      have HQQ : Hid (1 + m.args.length + 3 * m.code.length = mq) := hqq
      clear hqq
      have hq0 : ¬ ((mq : Int) < 0) := by omega
      go_wp2_with fail
      refine (heldMethodZ W5.heap.size Mi w6.heap.size m xi ui yi vi HML.out wF GIF.out CIF.out).mono ?_
      rw [HQQ.out]
      rintro e wG ⟨rfl, hbG⟩
      have hwG : Below w.heap.size w wG := below_over hwF hbG
      have hWG : Below W.heap.size W wG := below_over hWF hbG
      have BIG : Hid (Cells wG w6.heap.size [.int .i64 m.name, .slice xi m.args.length yi, .int .i64 m.gives, .slice ui m.code.length vi]) := BIF.out.on hbG
      have GIG : Hid (GZ W5.heap.size Mi wG (.slice xi m.args.length yi) (imarks 1 m.args.length)) := GIF.out.on hbG
      have CIG : Hid (CZ Mi w6.heap.size wG (.slice ui m.code.length vi) (marksM (1 + m.args.length) m.code.length)) := CIF.out.on hbG
      have BSG : Hid (Cells wG w3.heap.size [.int .i64 m.name, .slice xs m.args.length ys, .int .i64 m.gives, .slice us m.code.length vs]) := BSF.out.on hbG
      have GSG : Hid (GZ w2.heap.size Ms wG (.slice xs m.args.length ys) m.args) := GSF.out.on hbG
      have CSG : Hid (CZ Ms w3.heap.size wG (.slice us m.code.length vs) m.code) := CSF.out.on hbG
      obtain ⟨cG, _⟩ := (L0.out.on hWG).g0
      clear hbG BIF GIF CIF BSF GSF CSF hwF hWF k0 k1 k2 k3
      go_wp2_with fail
      refine (toProgram p a cap HSM.out _ (SK.on HIN.out (Keep.of hwG))).mono ?_
      rintro e wH ⟨vH, rfl, hvH, hbH⟩
      obtain ⟨aH, dH, rfl⟩ := hvH.form
      have hwH : Below w.heap.size w wH := below_over hwG hbH
      have HVH : Hid (SK front wG.heap.size wH (.slice aH p.length dH) p) := hvH
      have HBH : Hid (Below wG.heap.size wG wH) := hbH
      clear hvH hbH cG
      go_wp2_with fail
      refine (HIF.out wG.heap.size aH dH _ HVH.out).mono ?_
      rintro e wI ⟨xh, yh, uh, vh, rfl, ⟨Mh, hMh1, hMh2, hgh, hch⟩, hbI⟩
      obtain ⟨UI, hUI⟩ : ∃ UI, UI = wI.alloc (.cells #[.int .i64 m.name, .slice xh m.args.length yh, .int .i64 m.gives, .slice uh m.code.length vh] 29) := ⟨_, rfl⟩
      have hbUI : Below wI.heap.size wI UI := by rw [hUI]; exact (Below.refl _ _).alloc (Nat.le_refl _) _
      have hbGI : Below wG.heap.size wG UI := below_over HBH.out (below_over hbI hbUI)
      have hwI : Below w.heap.size w UI := below_over hwG hbGI
      have BHI : Hid (Cells UI wI.heap.size [.int .i64 m.name, .slice xh m.args.length yh, .int .i64 m.gives, .slice uh m.code.length vh]) := by rw [hUI]; exact Cells.new wI _ rfl _ _
      have GHI : Hid (GZ wH.heap.size Mh UI (.slice xh m.args.length yh) m.args) := hgh.on hbUI
      have CHI : Hid (CZ Mh wI.heap.size UI (.slice uh m.code.length vh) m.code) := hch.on hbUI
      have BII : Hid (Cells UI w6.heap.size [.int .i64 m.name, .slice xi m.args.length yi, .int .i64 m.gives, .slice ui m.code.length vi]) := BIG.out.on hbGI
      have GII : Hid (GZ W5.heap.size Mi UI (.slice xi m.args.length yi) (imarks 1 m.args.length)) := GIG.out.on hbGI
      have CII : Hid (CZ Mi w6.heap.size UI (.slice ui m.code.length vi) (marksM (1 + m.args.length) m.code.length)) := CIG.out.on hbGI
      have BSI : Hid (Cells UI w3.heap.size [.int .i64 m.name, .slice xs m.args.length ys, .int .i64 m.gives, .slice us m.code.length vs]) := BSG.out.on hbGI
      have GSI : Hid (GZ w2.heap.size Ms UI (.slice xs m.args.length ys) m.args) := GSG.out.on hbGI
      have CSI : Hid (CZ Ms w3.heap.size UI (.slice us m.code.length vs) m.code) := CSG.out.on hbGI
      obtain ⟨i0, _⟩ := BHI.out.g0
      obtain ⟨i1, _⟩ := BHI.out.g1
      obtain ⟨i2, _⟩ := BHI.out.g2
      obtain ⟨i3, _⟩ := BHI.out.g3
      obtain ⟨s0, _⟩ := BSI.out.g0
      obtain ⟨s1, _⟩ := BSI.out.g1
      obtain ⟨s2, _⟩ := BSI.out.g2
      obtain ⟨s3, _⟩ := BSI.out.g3
      clear hgh hch hbI hbUI hbGI HBH HVH BIG GIG CIG BSG GSG CSG hwG hWG hwH
      rw [hUI] at i0 i1 i2 i3 s0 s1 s2 s3
      go_wp2_with fail
      rw [← hUI]
      clear i0 i1 i2 i3 s0 s1 s2 s3 hUI
      refine (eqMethodZ wH.heap.size Mh wI.heap.size w2.heap.size Ms w3.heap.size m xh xs uh us yh ys vh vs HMS.out _ GHI.out CHI.out GSI.out CSI.out).mono ?_
      rintro e wJ ⟨rfl, hbJ⟩
      have hwJ : Below w.heap.size w wJ := below_over hwI hbJ
      have BIJ : Hid (Cells wJ w6.heap.size [.int .i64 m.name, .slice xi m.args.length yi, .int .i64 m.gives, .slice ui m.code.length vi]) := BII.out.on hbJ
      have GIJ : Hid (GZ W5.heap.size Mi wJ (.slice xi m.args.length yi) (imarks 1 m.args.length)) := GII.out.on hbJ
      have CIJ : Hid (CZ Mi w6.heap.size wJ (.slice ui m.code.length vi) (marksM (1 + m.args.length) m.code.length)) := CII.out.on hbJ
      obtain ⟨j0, _⟩ := BIJ.out.g0
      obtain ⟨j1, _⟩ := BIJ.out.g1
      obtain ⟨j2, _⟩ := BIJ.out.g2
      obtain ⟨j3, _⟩ := BIJ.out.g3
      clear hbJ BHI GHI CHI BII GII CII BSI GSI CSI hwI
      go_wp2_with fail
      refine (heldMethodZ W5.heap.size Mi w6.heap.size m xi ui yi vi HML.out wJ GIJ.out CIJ.out).mono ?_
      rw [HQQ.out]
      rintro e wK ⟨rfl, hbK⟩
      have hwK : Below w.heap.size w wK := below_over hwJ hbK
      clear hbK j0 j1 j2 j3
      go_wp2
      go_ret
      exact ⟨rfl, hwK⟩
  · have HSZ : Hid (szR (szP p) 1048576 = -1) := szR_no (Int.not_le.1 hsz)
    go_enter Try.func3, Try.ntmps3
    go_wp2_with fail
    rw [← hW]
    clear hW
    refine (szProgram wide 0 a cap p HS.out _ (SK.on HIN.out (Keep.of hwW))).mono ?_
    rw [HSZ.out]
    rintro e w1 ⟨rfl, hb1⟩
    have hw1 : Below w.heap.size w w1 := below_over hwW hb1
    clear hb1
    go_wp2
    go_ret
    exact ⟨rfl, hw1⟩
end Pg
end Go.Proofs.Ytbfiijfaaknhaaa
