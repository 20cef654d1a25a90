/- The contract of the draw of a program that may be turned once. -/
import Derived.Test.YtbgbddahniacbaaGreatDoorJDr6
namespace Go.Proofs.YtbgbddahniacbaaGreatDoor
namespace Pg
open Go.ChangeShapes Go.WideShapes Go.ChangeAt Go.RowKit St

/-- A program of small parts has been drawn, and the cursor stands. -/
def DrewA (B : Nat) (w : World) (c : Nat) (a : Option Addr) (len cap : Nat) (e : Ending) (w' : World) : Prop :=
  ∃ (g cp : Nat) (p : Prg), e = .returned (.agg #[.slice (some ⟨g, 0, none⟩) p.length cp]) ∧ p.length ≤ 4 ∧ SmallP p ∧ SK front w.heap.size w' (.slice (some ⟨g, 0, none⟩) p.length cp) p ∧ Cu.At B w w' c a len cap
/-- What the end of the draw wants. -/
structure FIN (B : Nat) (w0 : World) (cu : Nat) (a : Option Addr) (len cap pb g cp n : Nat) (p : Prg) (u : World) : Prop where
  at' : Cu.At B w0 u cu a len cap
  rb : Cells u w0.heap.size [.slice none 0 0]
  box : Cells u pb [.slice (some ⟨g, 0, none⟩) n cp]
  sk : SK front (w0.heap.size + 1) u (.slice (some ⟨g, 0, none⟩) n cp) p
  small : SmallP p
  ln : p.length = n
  lt : w0.heap.size < pb
theorem small_few {lo hi f : Nat} {c : Cls} (h : Few lo hi f c) (h1 : hi ≤ 9) (h2 : f ≤ 9) : SmallC c :=
  ⟨by have := h.2.2.1; omega, by have := h.2.1; omega, fun m hm => ⟨by have := (h.2.2.2 m hm).1; omega, by have := (h.2.2.2 m hm).2; omega⟩⟩
theorem small_stand {cs : Prg} (h : Stand cs) (hl : cs.length ≤ 4) : SmallP cs := ⟨by omega, fun c hc => by
  obtain ⟨j, hj⟩ := List.getElem?_of_mem hc
  exact small_few (h j c hj) (by omega) (by omega)⟩
theorem small_set {cs : Prg} (h : Stand cs) (hl : cs.length ≤ 4) {j : Nat} {c : Cls} (hc : SmallC c) : SmallP (cs.set j c) := ⟨by simp; omega, fun d hd => by
  rcases List.mem_or_eq_of_mem_set hd with hd | rfl
  · exact (small_stand h hl).2 d hd
  · exact hc⟩
theorem SA.fin0 {B : Nat} {w0 : World} {cu : Nat} {a : Option Addr} {len cap pb lo T g cp : Nat} {l : List (Cls × Value × Value)} {W : Nat → Nat × Nat} {u : World} (h : SA B w0 cu a len cap pb lo T g cp l W u) (hpl : lo ≤ pb) (hs : SmallP (l.map (·.1))) : FIN B w0 cu a len cap pb g cp l.length (l.map (·.1)) u := by
  have h5 := h.hlo
  have hl : (l.map (·.1)).length = l.length := by simp
  have := sk_of (cap := cp) (g := g) (lo := lo) (w := u) rfl (by rw [hl]; exact h.own) h.kd.cv
  rw [hl] at this
  exact ⟨h.at', h.rb, h.box, SK.weak this (by omega), hs, hl, by omega⟩
/-- Behind a store into the classes or the methods. -/
theorem fin_set {B : Nat} {w0 : World} {cu : Nat} {a : Option Addr} {len cap pb g cp n : Nat} {p : Prg} {u : World} {b i : Nat} {y : Value} (hat : Cu.At B w0 u cu a len cap) (hc : cu < w0.heap.size) (hr : Cells u w0.heap.size [.slice none 0 0]) (hb : Cells u pb [.slice (some ⟨g, 0, none⟩) n cp])
    (h1 : w0.heap.size < b) (h2 : b ≠ pb) (hlt : w0.heap.size < pb) (hs : SmallP p) (hn : p.length = n) (hk : SK front (w0.heap.size + 1) (u.setCell ⟨b, i, none⟩ y) (.slice (some ⟨g, 0, none⟩) n cp) p) : FIN B w0 cu a len cap pb g cp n p (u.setCell ⟨b, i, none⟩ y) :=
  ⟨hat.low hc ((Below.refl _ u).setCell (p := ⟨b, i, none⟩) (by show w0.heap.size ≤ b; omega) y), cells_move hr (Below.heap_setCell u ⟨b, i, none⟩ y _ (fun e => by have : w0.heap.size = b := e; omega)), cells_move hb (Below.heap_setCell u ⟨b, i, none⟩ y _ (fun e => by have : pb = b := e; omega)), hk, hs, hn, hlt⟩
theorem below_sa {B : Nat} {w0 : World} {cu : Nat} {a : Option Addr} {len cap pb lo T g cp : Nat} {l : List (Cls × Value × Value)} {W : Nat → Nat × Nat} {u u' : World} (n : Nat) (hn : 0 < n) (hpl : lo ≤ pb) (h : SA B w0 cu a len cap pb lo T g cp l W u) (hu : Cu.At B u u' cu a len cap) :
    Calls Tryz.prog 45 #[.pointer (some ⟨cu, 0, none⟩), .int .i64 (n : Int)] u' fun e u2 => ∃ j : Nat, e = .returned (.int .i64 (j : Int)) ∧ j < n ∧ Hid (SA B w0 cu a len cap pb lo T g cp l W u2) := by
  refine (Cu.below_at B cu u u' a len cap n hu).mono ?_
  rintro e u2 ⟨r, rfl, h0, _, h1, _, hat⟩
  have h2 := h1 (by omega)
  obtain ⟨j, rfl⟩ := Int.eq_ofNat_of_zero_le h0
  exact ⟨j, rfl, by omega, h.touch hat hpl⟩
theorem from_sa {B : Nat} {w0 : World} {cu : Nat} {a : Option Addr} {len cap pb lo T g cp : Nat} {l : List (Cls × Value × Value)} {W : Nat → Nat × Nat} {u u' : World} (x y : Int) (hl0 : -100 ≤ x) (hl1 : x ≤ 100) (hh0 : -100 ≤ y) (hh1 : y ≤ 100) (hpl : lo ≤ pb) (h : SA B w0 cu a len cap pb lo T g cp l W u) (hu : Cu.At B u u' cu a len cap) :
    Calls Tryz.prog 22 #[.pointer (some ⟨cu, 0, none⟩), .int .i64 x, .int .i64 y] u' fun e u2 => ∃ r : Int, e = .returned (.int .i64 r) ∧ Hid (SA B w0 cu a len cap pb lo T g cp l W u2) ∧ Hid (∀ k, lo ≤ k → k < u.heap.size → u2.heap[k]? = u.heap[k]?) ∧ Hid (u.heap.size ≤ u2.heap.size) := by
  refine (from_at B cu u u' a len cap x y hl0 hl1 hh0 hh1 hu).mono ?_
  rintro e u2 ⟨r, rfl, _, _, _, hat⟩
  have h1 := h.hlo
  have h2 := h.cw
  exact ⟨r, rfl, h.touch hat hpl, fun k hk hl => hat.1.block k hl (by omega), hat.1.size⟩
theorem code_sa {B : Nat} {w0 : World} {cu : Nat} {a : Option Addr} {len cap pb lo T g cp : Nat} {l : List (Cls × Value × Value)} {W : Nat → Nat × Nat} {u u' : World} (hpl : lo ≤ pb) (h : SA B w0 cu a len cap pb lo T g cp l W u) (hu : Cu.At B u u' cu a len cap) :
    Calls Tryz.prog 46 #[.pointer (some ⟨cu, 0, none⟩)] u' fun e u2 => ∃ gc yc lc, e = .returned (.slice (some ⟨gc, 0, none⟩) (List.length lc) yc) ∧ lc.length ≤ 42 ∧ Hid (SA B w0 cu a len cap pb lo T g cp l W u2) ∧ Hid (∀ k, lo ≤ k → k < u.heap.size → u2.heap[k]? = u.heap[k]?) ∧ Hid (u.heap.size ≤ u2.heap.size) ∧ Hid (CS u.heap.size u2 (.slice (some ⟨gc, 0, none⟩) lc.length yc) lc) := by
  refine (Cu.drawAnyC_cur B cu u' a len cap hu.2).mono ?_
  rintro e u2 ⟨x, lc, rfl, hgot, hl, _, hat⟩
  have hcs : CS u'.heap.size u2 x lc := hgot
  obtain ⟨gc, yc, rfl, hB, hg, hr, hm⟩ := hcs
  have h1 := h.hlo
  have h2 := h.cw
  have hat' := hu.step hat
  have hz := hu.1.size
  exact ⟨gc, yc, lc, rfl, by omega, h.touch hat' hpl, fun k hk hl => hat'.1.block k hl (by omega), hat'.1.size, ⟨gc, yc, rfl, by omega, hg, hr, hm⟩⟩
theorem small_turn {lo hi f : Nat} {x : Cls} {m m' : Meth} {ms : List Meth} (h : Few lo hi f x) (hms : x.meths = m :: ms) (hm : FewM m') (h1 : hi ≤ 9 := by omega) (h2 : f ≤ 9 := by omega) : SmallC { x with meths := m' :: ms } :=
  small_few (lo := 0) (hi := hi) (f := f) ⟨Nat.zero_le _, by have := h.2.1; rw [hms] at this; simpa using this, h.2.2.1, fun z hz => by
    rcases List.mem_cons.1 hz with rfl | hz
    · exact hm
    · exact h.2.2.2 z (by rw [hms]; exact List.mem_cons_of_mem _ hz)⟩ h1 h2
theorem fin_fld {B : Nat} {w0 : World} {cu : Nat} {a : Option Addr} {len cap pb lo T g cp : Nat} {l : List (Cls × Value × Value)} {W : Nat → Nat × Nat} {u X w3 : World} (H : SA B w0 cu a len cap pb lo T g cp l W u) (hpl : lo ≤ pb) {j : Nat} {x : Cls × Value × Value} (hx : l[j]? = some x) {q : Nat} (hf : Few q 3 2 x.1) (hst : Stand (l.map (·.1))) (hl : (l.map (·.1)).length ≤ 4)
    {gf df g3 d3 : Nat} {f : Int} (hvf : x.2.1 = .slice (some ⟨gf, 0, none⟩) x.1.fields.length df) (hat : Cu.At B u X cu a len cap) (hown : w3.ownsRow lo 2 1 (.slice (some ⟨g3, 0, none⟩) (x.1.fields.length + 1) d3) (x.1.fields.length + 1) (nums x.1.fields ++ [.int .i64 f])) (hgrow : X.grownBy w3 (some gf)) (h3 : g3 = gf ∨ g3 = X.heap.size) :
    FIN B w0 cu a len cap pb g cp l.length ((l.map (·.1)).set j { x.1 with fields := x.1.fields ++ [f] }) (w3.setCell ⟨g, j * 3 + 1, none⟩ (.slice (some ⟨g3, 0, none⟩) (x.1.fields.length + 1) d3)) ∧ w3.cell? ⟨g, j * 3 + 1, none⟩ = some (.slice (some ⟨gf, 0, none⟩) x.1.fields.length df) ∧ w3.frozen? ⟨g, j * 3 + 1, none⟩ = false := by
  obtain ⟨gf', df', hvf', q1, q2, q3, q4, hn⟩ := H.fld hx
  have hgf : gf' = gf := by rw [hvf] at hvf'; injection hvf' with e; injection e with e; injection e with e; exact e.symm
  subst hgf
  have HX := H.touch hat hpl
  obtain ⟨s1, s2, s3⟩ := HX.glo
  have s4 := HX.hlo
  have s5 := HX.hT
  have s6 := HX.cw
  have s7 := HX.hg
  have hz := hgrow.size
  have hz' := hat.1.size
  have hj : j < l.length := (List.getElem?_eq_some_iff.1 hx).1
  have hb : ∀ k, k < X.heap.size → k ≠ gf' → w3.heap[k]? = X.heap[k]? := fun k h1 h2 => hgrow.block k h1 (fun e => h2 (by injection e))
  have ho3 : w3.ownsRow lo 45 3 (.slice (some ⟨g, 0, none⟩) l.length cp) l.length (flatK l) := own_move HX.own (fun k hk => by have hk := own_at hk; exact hb k (by omega) (by omega))
  refine ⟨fin_set (HX.at'.low s6 ((Below.refl w0.heap.size X).grown hgrow (by omega) (fun k hk => by injection hk with hk; omega))) s6 (cells_move HX.rb (hb _ (by omega) (by omega))) (cells_move HX.box (hb _ (by omega) (by omega))) (by omega) (by omega) (by omega) (small_set hst hl (small_few (lo := 0) (hi := 3) (f := 3) ⟨Nat.zero_le _, hf.2.1, by have := hf.2.2.1; simp; omega, hf.2.2.2⟩ (by omega) (by omega))) (by simp) (hn X w3 g3 d3 f hz' (fun k h1 h2 => hat.1.block k h2 (by omega)) hown hgrow h3), ?_, ho3.frozenAt _⟩
  rw [← hvf]
  exact (ho3.cellAt (j * 3 + 1) (by omega)).trans (flatK_at l j x hx).2.1
theorem own_or {gf g3 n m d e N : Nat} (h : (Value.slice (some ⟨g3, 0, none⟩) n d).ownBlock = (Value.slice (some ⟨gf, 0, none⟩) m e).ownBlock ∨ (Value.slice (some ⟨g3, 0, none⟩) n d).ownBlock = some N) : g3 = gf ∨ g3 = N := by
  simpa [Value.ownBlock] using h
theorem cell_one_new2 (w : World) (o : Obj) (p : Value) (t : TypeId) : Hid (∀ (j : Nat) (u : Value), [p][j]? = some u → ((w.alloc o).alloc (.cells #[p] t)).cell? ((⟨w.heap.size + 1, 0, none⟩ : Addr).add j) = some u) := by
  have h := cell_one_new (w.alloc o) p t
  simp only [World.size_alloc] at h
  exact h
/-- The three numbers of the literal. -/
def lit3 (k : Nat) : Int := if k = 0 then -2 else if k = 1 then 5 else 0
theorem lit3_at {w : World} {b k : Nat} (h : Cells w b [.int .i64 (-2), .int .i64 5, .int .i64 0]) (hk : k < 3) : w.cell? ⟨b, k, none⟩ = some (.int .i64 (lit3 k)) := by
  match k, hk with
  | 0, _ => exact h.g0.1
  | 1, _ => exact h.g1.1
  | 2, _ => exact h.g2.1
theorem idx_sa {B : Nat} {w0 : World} {cu : Nat} {a : Option Addr} {len cap pb lo T g cp : Nat} {l : List (Cls × Value × Value)} {W : Nat → Nat × Nat} {u u' : World} (hpl : lo ≤ pb) (h : SA B w0 cu a len cap pb lo T g cp l W u) (hu : Cu.At B u u' cu a len cap) :
    Calls Tryz.prog 45 #[.pointer (some ⟨cu, 0, none⟩), .int .i64 3] u' fun e u2 => ∃ k : Nat, e = .returned (.int .i64 (k : Int)) ∧ k < 3 ∧ Hid (SA B w0 cu a len cap pb lo T g cp l W u2) ∧ Hid (Cu.At B u u2 cu a len cap) ∧ Hid (Cu.Touch cu u' u2) := by
  refine (Cu.below_at B cu u' u' a len cap 3 (Cu.At.start hu.2)).mono ?_
  rintro e u2 ⟨r, rfl, h0, _, h1, _, hat⟩
  have h2 := h1 (by omega)
  obtain ⟨k, rfl⟩ := Int.eq_ofNat_of_zero_le h0
  exact ⟨k, rfl, by omega, h.touch (hu.step hat) hpl, hu.step hat, hat.1⟩

set_option maxRecDepth 100000 in
set_option maxHeartbeats 8000000 in
theorem drawAny_cur (B c : Nat) (w : World) (a : Option Addr) (len cap : Nat) (h : Cu.Cur B w c a len cap) :
    Calls Tryz.prog 21 #[.pointer (some ⟨c, 0, none⟩)] w fun e w' => DrewA B w c a len cap e w' := by
  obtain ⟨k0, hif, hz0, hz1, hz2⟩ := info_parts infoN
  have hcw : c < w.heap.size := h.2.1
  have HA : Hid (Cu.At B w (w.alloc (.cells #[.slice none 0 0] 26)) c a len cap) := (Cu.At.start h).alloc _
  have R0 : Hid (Cells (w.alloc (.cells #[.slice none 0 0] 26)) w.heap.size [.slice none 0 0]) := Cells.new w _ rfl _ _
  clear h
  go_enter Tryz.func21, Tryz.ntmps21
  go_wp2_with fail
  refine (draw_cur B c _ a len cap HA.out.2).mono ?_
  rintro e w1 ⟨g, cp, lo, T, l, W, rfl, hlo, hl1, hl4, hstand, hown, hkd, hT, hA1⟩
  have hstand' : Hid (Stand (l.map (·.1))) := hstand
  have hsz := hA1.1.size
  simp only [World.size_alloc] at hlo hsz
  have hgl := hown.lt g rfl
  have HSA : Hid (SA B w c a len cap w1.heap.size lo T g cp l W (w1.alloc (.cells #[.slice (some ⟨g, 0, none⟩) l.length cp] 26))) :=
    ⟨(HA.out.step hA1).alloc _, (Cu.cells_touch R0.out hA1.1 (by omega)).alloc _, Cells.new w1 _ rfl _ _, hown.alloc _, hkd.same (Same.alloc _ _ hT), hT, by omega, by omega, hcw⟩
  have hpl : lo ≤ w1.heap.size := by omega
  clear HA R0 hown hkd hA1 hstand
  go_wp2_with fail
  generalize w1.alloc (.cells #[.slice (some ⟨g, 0, none⟩) l.length cp] 26) = U at *
  refine (Cu.once_at B c U _ a len cap 8 (Cu.At.start HSA.out.at'.2)).mono ?_
  rintro e w2 ⟨q, rfl, hA2⟩
  have HS2 : Hid (SA B w c a len cap w1.heap.size lo T g cp l W w2) := HSA.out.touch hA2 hpl
  clear HSA hA2
  generalize w1.heap.size = pb at *
  go_upto_if 8 with fail
  go_cut [3] (fun p u => p = .pointer (some ⟨pb, 0, none⟩) ∧ ∃ pr, Hid (FIN B w c a len cap pb g cp l.length pr u))
  case first =>
    cases q
    · go_wp2_with fail
      go_meet
      exact ⟨rfl, _, HS2.out.fin0 hpl (small_stand hstand'.out (by simpa using hl4))⟩
    · have x0 := HS2.out.box.g0.1
      go_upto_region 3 with fail
      go_cut [4] (fun p u => ∃ j : Nat, j < l.length ∧ p = .pointer (some ⟨g, j * 3, none⟩) ∧ Hid (SA B w c a len cap pb lo T g cp l W u))
      case first =>
        have hl0 : 0 < l.length := by omega
        go_region_law (go_simp; go_at_call 45; refine (below_sa l.length hl0 hpl HS2.out ⟨(Cu.Touch.refl _ _).drew, HS2.out.at'.2⟩).mono ?_; rintro e u2 ⟨j, rfl, hj, HT2⟩; have x2 := HT2.out.box.g0.1; have hj0 : (0 : Int) ≤ (j : Int) := (by omega); have hj1 : (j : Int) < (l.length : Int) := (by omega); dsimp only)
        all_goals
          go_wp2_with fail
          go_meet
          exact ⟨j, hj, by simp, HT2.out⟩
      case rest =>
        clear x0 HS2
        obtain ⟨j, hj, rfl, hS⟩ := hcut
        go_wp2_with fail
        refine (Cu.below_at B c wc _ a len cap 6 (Cu.At.start hS.out.at'.2)).mono ?_
        rintro e u ⟨r, rfl, hr0, _, hr1, _, hA3⟩
        have hr2 := hr1 (by omega)
        have H3 : Hid (SA B w c a len cap pb lo T g cp l W u) := hS.out.touch hA3 hpl
        have hx : l[j]? = some l[j] := List.getElem?_eq_getElem hj
        have hstj : Hid (Few (if j = 0 then 2 else 1) 3 2 l[j].1) := hstand'.out j l[j].1 (by rw [List.getElem?_map, hx]; rfl)
        have hlen : (l.map (·.1)).length ≤ 4 := by simpa using hl4
        clear hS hA3 hr1
        generalize l[j] = x at *
        have HX : Hid (l[j]? = some x) := hx
        have hlo' := H3.out.hlo
        have hglo := H3.out.glo
        have hgp := H3.out.hg
        have hTp := H3.out.hT
        clear hx
        have hr : r = 0 ∨ r = 1 ∨ r = 2 ∨ r = 3 ∨ r = 4 ∨ r = 5 := by omega
        clear hr0 hr2
        rcases hr with rfl | rfl | rfl | rfl | rfl | rfl
        · go_wp2_with fail
          refine (from_sa (-2) 6 (by omega) (by omega) (by omega) (by omega) hpl H3.out (Cu.At.start H3.out.at'.2)).mono ?_
          rintro e u3 ⟨s, rfl, H4, _, _⟩
          have f0 := H4.out.own.frozenAt (j * 3)
          have c0 := (H4.out.own.cellAt (j * 3) (by omega)).trans (flatK_at l j x HX.out).1
          have HF : Hid (FIN B w c a len cap pb g cp l.length _ (u3.setCell ⟨g, j * 3, none⟩ (.int .i64 s))) := fin_set H4.out.at' hcw H4.out.rb H4.out.box (by omega) (by omega) (by omega) (small_set hstand'.out hlen (c := { x.1 with super := s }) (small_few (lo := 0) (hi := 3) (f := 2) ⟨by omega, hstj.out.2.1, hstj.out.2.2.1, hstj.out.2.2.2⟩ (by omega) (by omega))) (by simp) (H4.out.sup HX.out s)
          clear hglo H4 H3
          go_wp2_with fail
          go_meet
          exact ⟨rfl, _, HF.out⟩
        · obtain ⟨gf, df, hvf, hgl, hgg, hgT, hown, hnext⟩ := H3.out.fld HX.out
          have HOF : Hid (u.ownsRow lo 2 1 (.slice (some ⟨gf, 0, none⟩) x.1.fields.length df) x.1.fields.length (nums x.1.fields)) := hown
          have HVF : Hid (x.2.1 = (.slice (some ⟨gf, 0, none⟩) x.1.fields.length df)) := hvf
          have x0 : u.cell? ⟨g, j * 3 + 1, none⟩ = some (.slice (some ⟨gf, 0, none⟩) x.1.fields.length df) := by rw [← hvf]; exact (H3.out.own.cellAt (j * 3 + 1) (by omega)).trans (flatK_at l j x HX.out).2.1
          have x0a : (World.alloc u.drew (.cells #[.int .i64 (-2), .int .i64 5, .int .i64 0] 2)).cell? ⟨g, j * 3 + 1, none⟩ = some (.slice (some ⟨gf, 0, none⟩) x.1.fields.length df) := by rw [← hvf]; exact ((World.ownsRow.alloc (w := u.drew) H3.out.own _).cellAt (j * 3 + 1) (by omega)).trans (flatK_at l j x HX.out).2.1
          have hfl : x.1.fields.length ≤ 2 := hstj.out.2.2.1
          have hcu : c < lo := by omega
          have hgs : gf < u.heap.size := by omega
          have hsl : lo ≤ u.heap.size := by omega
          clear hnext hown hvf
          go_upto_region 8 with fail
          go_region_law (first
            | (refine stepAppAt _ rfl (.tmp 32) (.tmp 38) 29 rfl lo 2 k0 (.int .i64 0) 1 8 Tryz.underlying29 hif hz0 hz1 hz2 rfl (by decide) (.slice (some ⟨gf, 0, none⟩) x.1.fields.length df) x.1.fields.length (nums x.1.fields) (by simp [Act.eval]) (HO2.out.alloc _) ⟨u2.heap.size, 0, none⟩ 1 1 [.int .i64 (lit3 k)] (by simp [Act.eval]) rfl (cell_one_new _ _ _) (by simp [Value.oneCell']) (by unfold maxLen; omega) (by omega) (by simp; omega) ?_; intro v3 w3 hown3 hgrow3 hnil3 hat3; obtain ⟨g3, d3, rfl⟩ := own_more hown3; obtain ⟨HF0, r3, q3⟩ := fin_fld H3.out hpl HX.out hstj.out hstand'.out hlen HVF.out ((HU2.out).alloc _) hown3 hgrow3 (own_or hat3))
            | (refine stepAppAt _ rfl (.tmp 32) (.tmp 38) 29 rfl lo 2 k0 (.int .i64 0) 1 8 Tryz.underlying29 hif hz0 hz1 hz2 rfl (by decide) (.slice (some ⟨gf, 0, none⟩) x.1.fields.length df) x.1.fields.length (nums x.1.fields) (by simp [Act.eval]) ((HO2.out.alloc _).alloc _) ⟨u2.heap.size + 1, 0, none⟩ 1 1 [.int .i64 (lit3 k)] (by simp [Act.eval]) rfl (HCN.out) (by simp [Value.oneCell']) (by unfold maxLen; omega) (by omega) (by simp; omega) ?_; intro v3 w3 hown3 hgrow3 hnil3 hat3; obtain ⟨g3, d3, rfl⟩ := own_more hown3; obtain ⟨HF0, r3, q3⟩ := fin_fld H3.out hpl HX.out hstj.out hstand'.out hlen HVF.out ((HU2.out.alloc _).alloc _) hown3 hgrow3 (own_or hat3))
            | (go_simp; go_at_call 45; refine (idx_sa hpl H3.out ⟨(Cu.Touch.refl _ _).drew, H3.out.at'.2⟩).mono ?_; rintro e u2 ⟨k, rfl, hk3, H4, HU2, HT2⟩; have hk0 : (0 : Int) ≤ (k : Int) := (by omega); have hk1 : (k : Int) < 3 := (by omega); have x2 : u2.cell? ⟨g, j * 3 + 1, none⟩ = some (.slice (some ⟨gf, 0, none⟩) x.1.fields.length df) := (HVF.out ▸ (H4.out.own.cellAt (j * 3 + 1) (by omega)).trans (flatK_at l j x HX.out).2.1); have x2a : (u2.alloc (.cells #[.int .i64 (-2), .int .i64 5, .int .i64 0] 2)).cell? ⟨g, j * 3 + 1, none⟩ = some (.slice (some ⟨gf, 0, none⟩) x.1.fields.length df) := (HVF.out ▸ ((H4.out.own.alloc _).cellAt (j * 3 + 1) (by omega)).trans (flatK_at l j x HX.out).2.1); have y2 : (u2.alloc (.cells #[.int .i64 (-2), .int .i64 5, .int .i64 0] 2)).cell? ⟨u2.heap.size, k, none⟩ = some (.int .i64 (lit3 k)) := lit3_at (Cells.new u2 _ rfl _ _) hk3; have HO2 : Hid (u2.ownsRow lo 2 1 (.slice (some ⟨gf, 0, none⟩) x.1.fields.length df) x.1.fields.length (nums x.1.fields)) := own_move HOF.out (fun b hb => (by have hb := own_at hb; exact HU2.out.1.block b (by omega) (by omega))); have x2b : ((u2.alloc (.cells #[.int .i64 (-2), .int .i64 5, .int .i64 0] 2)).alloc (.cells #[.int .i64 (lit3 k)] 2)).cell? ⟨g, j * 3 + 1, none⟩ = some (.slice (some ⟨gf, 0, none⟩) x.1.fields.length df) := (HVF.out ▸ (World.ownsRow.cellAt ((H4.out.own.alloc _).alloc _) (j * 3 + 1) (by omega)).trans (flatK_at l j x HX.out).2.1); have hs2 : u.heap.size ≤ u2.heap.size := HU2.out.1.size; have HCN := cell_one_new2 u2 (.cells #[.int .i64 (-2), .int .i64 5, .int .i64 0] 2) (.int .i64 (lit3 k)) 2; dsimp only)
            | (go_simp; go_at_call 45; refine (idx_sa hpl H3.out (u' := (World.alloc u.drew (.cells #[.int .i64 (-2), .int .i64 5, .int .i64 0] 2))) ⟨((Cu.Touch.refl _ _).drew).alloc _, Cu.Cur.alloc H3.out.at'.2 _⟩).mono ?_; rintro e u2 ⟨k, rfl, hk3, H4, HU2, HT2⟩; have hk0 : (0 : Int) ≤ (k : Int) := (by omega); have hk1 : (k : Int) < 3 := (by omega); have x2 : u2.cell? ⟨g, j * 3 + 1, none⟩ = some (.slice (some ⟨gf, 0, none⟩) x.1.fields.length df) := (HVF.out ▸ (H4.out.own.cellAt (j * 3 + 1) (by omega)).trans (flatK_at l j x HX.out).2.1); have y2 : u2.cell? ⟨u.heap.size, k, none⟩ = some (.int .i64 (lit3 k)) := lit3_at (Cu.cells_touch (Cells.new u.drew _ rfl _ _) HT2.out (by have : c < u.heap.size := H3.out.at'.2.2.1; omega)) hk3; have HO2 : Hid (u2.ownsRow lo 2 1 (.slice (some ⟨gf, 0, none⟩) x.1.fields.length df) x.1.fields.length (nums x.1.fields)) := own_move HOF.out (fun b hb => (by have hb := own_at hb; exact HU2.out.1.block b (by omega) (by omega))); have x2b : (u2.alloc (.cells #[.int .i64 (lit3 k)] 2)).cell? ⟨g, j * 3 + 1, none⟩ = some (.slice (some ⟨gf, 0, none⟩) x.1.fields.length df) := (HVF.out ▸ (World.ownsRow.cellAt (H4.out.own.alloc _) (j * 3 + 1) (by omega)).trans (flatK_at l j x HX.out).2.1); have hs2 : u.heap.size ≤ u2.heap.size := HU2.out.1.size; dsimp only))
          all_goals
            have HF : Hid (FIN B w c a len cap pb g cp l.length _ (w3.setCell ⟨g, j * 3 + 1, none⟩ (.slice (some ⟨g3, 0, none⟩) (x.1.fields.length + 1) d3))) := HF0
            clear HF0
            go_wp2_with fail
            go_meet
            exact ⟨rfl, _, HF.out⟩
        · obtain ⟨gm, dm, m, va, vc, ms, hvm, hms, hcm, hmv, hgl, hgg, hgT, hnext⟩ := H3.out.mth HX.out (by have := hstj.out.1; by_cases e : j = 0 <;> simp [e] at this <;> omega)
          have HN : Hid (∀ (u' : World) (i : Nat) (y : Value) (m' : Meth) (va' vc' : Value), u.heap.size ≤ u'.heap.size → (∀ k, lo ≤ k → k < u.heap.size → u'.heap[k]? = u.heap[k]?) → ([.int .i64 m'.name, va', .int .i64 m'.gives, vc'] : List Value) = ([.int .i64 m.name, va, .int .i64 m.gives, vc] : List Value).set i y → i < 4 → MV front lo (u'.setCell ⟨gm, i, none⟩ y) va' vc' m' → SK front (w.heap.size + 1) (u'.setCell ⟨gm, i, none⟩ y) (.slice (some ⟨g, 0, none⟩) l.length cp) ((l.map (·.1)).set j { x.1 with meths := m' :: ms })) := hnext
          have HMV : Hid (∀ (u' : World) (i : Nat) (y : Value), u.heap.size ≤ u'.heap.size → (∀ k, lo ≤ k → k < u.heap.size → u'.heap[k]? = u.heap[k]?) → MV front lo (u'.setCell ⟨gm, i, none⟩ y) va vc m) := hmv
          have HCM : Hid (Cells u gm [.int .i64 m.name, va, .int .i64 m.gives, vc]) := hcm
          have HMS : Hid (x.1.meths = m :: ms) := hms
          have hgs : gm < u.heap.size := by omega
          have x0 : u.cell? ⟨g, j * 3 + 2, none⟩ = some (.slice (some ⟨gm, 0, none⟩) x.1.meths.length dm) := by rw [← hvm]; exact (H3.out.own.cellAt (j * 3 + 2) (by omega)).trans (flatK_at l j x HX.out).2.2
          have hm0 : (0 : Int) < (x.1.meths.length : Int) := by rw [hms]; simp
          have hm1 : 0 < x.1.meths.length := by omega
          have HVM : Hid (x.2.2 = .slice (some ⟨gm, 0, none⟩) x.1.meths.length dm) := hvm
          clear hnext hmv hcm hms hvm hglo
          go_upto_region 10 with fail
          go_region_law (go_simp; go_at_call 22; refine (from_sa (-1) 4 (by omega) (by omega) (by omega) (by omega) hpl H3.out ⟨(Cu.Touch.refl _ _).drew, H3.out.at'.2⟩).mono ?_; rintro e u3 ⟨y, rfl, H4, HK, HZ⟩; have x2 : u3.cell? ⟨g, j * 3 + 2, none⟩ = some (.slice (some ⟨gm, 0, none⟩) x.1.meths.length dm) := (HVM.out ▸ (H4.out.own.cellAt (j * 3 + 2) (by omega)).trans (flatK_at l j x HX.out).2.2); obtain ⟨c4, f4⟩ := (cells_move HCM.out (HK.out gm hgl hgs)).g0; dsimp only)
          all_goals
            have hmv' : MV front lo (u3.setCell ⟨gm, 0, none⟩ (.int .i64 y)) va vc { m with name := y } := HMV.out u3 0 (.int .i64 y) HZ.out HK.out
            have HF : Hid (FIN B w c a len cap pb g cp l.length _ (u3.setCell ⟨gm, 0, none⟩ (.int .i64 y))) := fin_set H4.out.at' hcw H4.out.rb H4.out.box (by omega) (by omega) (by omega) (small_set hstand'.out hlen (c := { x.1 with meths := { m with name := y } :: ms }) (small_turn hstj.out HMS.out ⟨(hstj.out.2.2.2 m (by rw [HMS.out]; simp)).1, (hstj.out.2.2.2 m (by rw [HMS.out]; simp)).2⟩)) (by simp) (HN.out u3 0 (.int .i64 y) { m with name := y } va vc HZ.out HK.out rfl (by omega) hmv')
            clear hmv' H4 H3 HK HZ HN HMV HCM
            go_wp2_with fail
            go_meet
            exact ⟨rfl, _, HF.out⟩
        · obtain ⟨gm, dm, m, va, vc, ms, hvm, hms, hcm, hmv, hgl, hgg, hgT, hnext⟩ := H3.out.mth HX.out (by have := hstj.out.1; by_cases e : j = 0 <;> simp [e] at this <;> omega)
          have HN : Hid (∀ (u' : World) (i : Nat) (y : Value) (m' : Meth) (va' vc' : Value), u.heap.size ≤ u'.heap.size → (∀ k, lo ≤ k → k < u.heap.size → u'.heap[k]? = u.heap[k]?) → ([.int .i64 m'.name, va', .int .i64 m'.gives, vc'] : List Value) = ([.int .i64 m.name, va, .int .i64 m.gives, vc] : List Value).set i y → i < 4 → MV front lo (u'.setCell ⟨gm, i, none⟩ y) va' vc' m' → SK front (w.heap.size + 1) (u'.setCell ⟨gm, i, none⟩ y) (.slice (some ⟨g, 0, none⟩) l.length cp) ((l.map (·.1)).set j { x.1 with meths := m' :: ms })) := hnext
          have HMV : Hid (∀ (u' : World) (i : Nat) (y : Value), u.heap.size ≤ u'.heap.size → (∀ k, lo ≤ k → k < u.heap.size → u'.heap[k]? = u.heap[k]?) → MV front lo (u'.setCell ⟨gm, i, none⟩ y) va vc m) := hmv
          have HCM : Hid (Cells u gm [.int .i64 m.name, va, .int .i64 m.gives, vc]) := hcm
          have HMS : Hid (x.1.meths = m :: ms) := hms
          have hgs : gm < u.heap.size := by omega
          have x0 : u.cell? ⟨g, j * 3 + 2, none⟩ = some (.slice (some ⟨gm, 0, none⟩) x.1.meths.length dm) := by rw [← hvm]; exact (H3.out.own.cellAt (j * 3 + 2) (by omega)).trans (flatK_at l j x HX.out).2.2
          have hm0 : (0 : Int) < (x.1.meths.length : Int) := by rw [hms]; simp
          have hm1 : 0 < x.1.meths.length := by omega
          have HVM : Hid (x.2.2 = .slice (some ⟨gm, 0, none⟩) x.1.meths.length dm) := hvm
          clear hnext hmv hcm hms hvm hglo
          go_upto_region 12 with fail
          go_region_law (go_simp; go_at_call 22; refine (from_sa (-2) 4 (by omega) (by omega) (by omega) (by omega) hpl H3.out ⟨(Cu.Touch.refl _ _).drew, H3.out.at'.2⟩).mono ?_; rintro e u3 ⟨y, rfl, H4, HK, HZ⟩; have x2 : u3.cell? ⟨g, j * 3 + 2, none⟩ = some (.slice (some ⟨gm, 0, none⟩) x.1.meths.length dm) := (HVM.out ▸ (H4.out.own.cellAt (j * 3 + 2) (by omega)).trans (flatK_at l j x HX.out).2.2); obtain ⟨c4, f4⟩ := (cells_move HCM.out (HK.out gm hgl hgs)).g2; dsimp only)
          all_goals
            have hmv' : MV front lo (u3.setCell ⟨gm, 2, none⟩ (.int .i64 y)) va vc { m with gives := y } := HMV.out u3 2 (.int .i64 y) HZ.out HK.out
            have HF : Hid (FIN B w c a len cap pb g cp l.length _ (u3.setCell ⟨gm, 2, none⟩ (.int .i64 y))) := fin_set H4.out.at' hcw H4.out.rb H4.out.box (by omega) (by omega) (by omega) (small_set hstand'.out hlen (c := { x.1 with meths := { m with gives := y } :: ms }) (small_turn hstj.out HMS.out ⟨(hstj.out.2.2.2 m (by rw [HMS.out]; simp)).1, (hstj.out.2.2.2 m (by rw [HMS.out]; simp)).2⟩)) (by simp) (HN.out u3 2 (.int .i64 y) { m with gives := y } va vc HZ.out HK.out rfl (by omega) hmv')
            clear hmv' H4 H3 HK HZ HN HMV HCM
            go_wp2_with fail
            go_meet
            exact ⟨rfl, _, HF.out⟩
        · obtain ⟨gm, dm, m, va, vc, ms, hvm, hms, hcm, hmv, hgl, hgg, hgT, hnext⟩ := H3.out.mth HX.out (by have := hstj.out.1; by_cases e : j = 0 <;> simp [e] at this <;> omega)
          have HN : Hid (∀ (u' : World) (i : Nat) (y : Value) (m' : Meth) (va' vc' : Value), u.heap.size ≤ u'.heap.size → (∀ k, lo ≤ k → k < u.heap.size → u'.heap[k]? = u.heap[k]?) → ([.int .i64 m'.name, va', .int .i64 m'.gives, vc'] : List Value) = ([.int .i64 m.name, va, .int .i64 m.gives, vc] : List Value).set i y → i < 4 → MV front lo (u'.setCell ⟨gm, i, none⟩ y) va' vc' m' → SK front (w.heap.size + 1) (u'.setCell ⟨gm, i, none⟩ y) (.slice (some ⟨g, 0, none⟩) l.length cp) ((l.map (·.1)).set j { x.1 with meths := m' :: ms })) := hnext
          have HMV : Hid (∀ (u' : World) (i : Nat) (y : Value), u.heap.size ≤ u'.heap.size → (∀ k, lo ≤ k → k < u.heap.size → u'.heap[k]? = u.heap[k]?) → MV front lo (u'.setCell ⟨gm, i, none⟩ y) va vc m) := hmv
          have HCM : Hid (Cells u gm [.int .i64 m.name, va, .int .i64 m.gives, vc]) := hcm
          have HMS : Hid (x.1.meths = m :: ms) := hms
          have hgs : gm < u.heap.size := by omega
          have x0 : u.cell? ⟨g, j * 3 + 2, none⟩ = some (.slice (some ⟨gm, 0, none⟩) x.1.meths.length dm) := by rw [← hvm]; exact (H3.out.own.cellAt (j * 3 + 2) (by omega)).trans (flatK_at l j x HX.out).2.2
          have hm0 : (0 : Int) < (x.1.meths.length : Int) := by rw [hms]; simp
          have hm1 : 0 < x.1.meths.length := by omega
          have HVM : Hid (x.2.2 = .slice (some ⟨gm, 0, none⟩) x.1.meths.length dm) := hvm
          clear hnext hmv hcm hms hvm hglo
          go_upto_region 14 with fail
          go_region_law (go_simp; go_at_call 46; refine (code_sa hpl H3.out ⟨(Cu.Touch.refl _ _).drew, H3.out.at'.2⟩).mono ?_; rintro e u3 ⟨gc, yc, lc, rfl, hl42, H4, HK, HZ, HCS⟩; have x2 : u3.cell? ⟨g, j * 3 + 2, none⟩ = some (.slice (some ⟨gm, 0, none⟩) x.1.meths.length dm) := (HVM.out ▸ (H4.out.own.cellAt (j * 3 + 2) (by omega)).trans (flatK_at l j x HX.out).2.2); obtain ⟨c4, f4⟩ := (cells_move HCM.out (HK.out gm hgl hgs)).g3; dsimp only)
          all_goals
            have hmv' : MV front lo (u3.setCell ⟨gm, 3, none⟩ (.slice (some ⟨gc, 0, none⟩) lc.length yc)) va (.slice (some ⟨gc, 0, none⟩) lc.length yc) { m with code := lc } := ⟨(HMV.out u3 3 (.slice (some ⟨gc, 0, none⟩) lc.length yc) HZ.out HK.out).1, front.weak (B := u.heap.size) (front.on HCS.out ⟨by simp, fun k h1 _ => Below.heap_setCell u3 ⟨gm, 3, none⟩ _ k (fun e => by have : k = gm := e; omega)⟩) (by omega)⟩
            have HF : Hid (FIN B w c a len cap pb g cp l.length _ (u3.setCell ⟨gm, 3, none⟩ (.slice (some ⟨gc, 0, none⟩) lc.length yc))) := fin_set H4.out.at' hcw H4.out.rb H4.out.box (by omega) (by omega) (by omega) (small_set hstand'.out hlen (c := { x.1 with meths := { m with code := lc } :: ms }) (small_turn hstj.out HMS.out ⟨(hstj.out.2.2.2 m (by rw [HMS.out]; simp)).1, hl42⟩)) (by simp) (HN.out u3 3 (.slice (some ⟨gc, 0, none⟩) lc.length yc) { m with code := lc } va (.slice (some ⟨gc, 0, none⟩) lc.length yc) HZ.out HK.out rfl (by omega) hmv')
            clear hmv' H4 H3 HK HZ HN HMV HCM HCS
            go_wp2_with fail
            go_meet
            exact ⟨rfl, _, HF.out⟩
        · obtain ⟨gm, dm, m, va, vc, ms, hvm, hms, hcm, hmv, hgl, hgg, hgT, hnext⟩ := H3.out.mth HX.out (by have := hstj.out.1; by_cases e : j = 0 <;> simp [e] at this <;> omega)
          have HN : Hid (∀ (u' : World) (i : Nat) (y : Value) (m' : Meth) (va' vc' : Value), u.heap.size ≤ u'.heap.size → (∀ k, lo ≤ k → k < u.heap.size → u'.heap[k]? = u.heap[k]?) → ([.int .i64 m'.name, va', .int .i64 m'.gives, vc'] : List Value) = ([.int .i64 m.name, va, .int .i64 m.gives, vc] : List Value).set i y → i < 4 → MV front lo (u'.setCell ⟨gm, i, none⟩ y) va' vc' m' → SK front (w.heap.size + 1) (u'.setCell ⟨gm, i, none⟩ y) (.slice (some ⟨g, 0, none⟩) l.length cp) ((l.map (·.1)).set j { x.1 with meths := m' :: ms })) := hnext
          have HMV : Hid (∀ (u' : World) (i : Nat) (y : Value), u.heap.size ≤ u'.heap.size → (∀ k, lo ≤ k → k < u.heap.size → u'.heap[k]? = u.heap[k]?) → MV front lo (u'.setCell ⟨gm, i, none⟩ y) va vc m) := hmv
          have HCM : Hid (Cells u gm [.int .i64 m.name, va, .int .i64 m.gives, vc]) := hcm
          have HMS : Hid (x.1.meths = m :: ms) := hms
          have hgs : gm < u.heap.size := by omega
          have x0 : u.cell? ⟨g, j * 3 + 2, none⟩ = some (.slice (some ⟨gm, 0, none⟩) x.1.meths.length dm) := by rw [← hvm]; exact (H3.out.own.cellAt (j * 3 + 2) (by omega)).trans (flatK_at l j x HX.out).2.2
          have hm0 : (0 : Int) < (x.1.meths.length : Int) := by rw [hms]; simp
          have hm1 : 0 < x.1.meths.length := by omega
          have HVM : Hid (x.2.2 = .slice (some ⟨gm, 0, none⟩) x.1.meths.length dm) := hvm
          clear hnext hmv hcm hms hvm hglo
          have hkA : ∀ k, lo ≤ k → k < u.heap.size → (u.alloc (.cells #[.int .i64 (-1)] 2)).heap[k]? = u.heap[k]? := fun k _ h2 => Below.heap_alloc u _ k h2
          have hzA : u.heap.size ≤ (u.alloc (.cells #[.int .i64 (-1)] 2)).heap.size := by simp
          obtain ⟨c4, f4⟩ := (HCM.out.alloc (.cells #[.int .i64 (-1)] 2)).g1
          have hmv' : MV front lo ((u.alloc (.cells #[.int .i64 (-1)] 2)).setCell ⟨gm, 1, none⟩ (.slice (some ⟨u.heap.size, 0, none⟩) 1 1)) (.slice (some ⟨u.heap.size, 0, none⟩) 1 1) vc { m with args := [-1] } := ⟨SI.weak (B := u.heap.size) (SI.on (si_lit (l := [-1]) (Nat.le_refl _) _ rfl _) ⟨by simp, fun k h1 _ => Below.heap_setCell _ ⟨gm, 1, none⟩ _ k (fun e => by have : k = gm := e; omega)⟩) (by omega), (HMV.out _ 1 _ hzA hkA).2⟩
          have HF : Hid (FIN B w c a len cap pb g cp l.length _ ((u.alloc (.cells #[.int .i64 (-1)] 2)).setCell ⟨gm, 1, none⟩ (.slice (some ⟨u.heap.size, 0, none⟩) 1 1))) := fin_set (H3.out.at'.alloc _) hcw (H3.out.rb.alloc _) (H3.out.box.alloc _) (by omega) (by omega) (by omega) (small_set hstand'.out hlen (c := { x.1 with meths := { m with args := [-1] } :: ms }) (small_turn hstj.out HMS.out ⟨by simp, (hstj.out.2.2.2 m (by rw [HMS.out]; simp)).2⟩)) (by simp) (HN.out _ 1 _ { m with args := [-1] } _ vc hzA hkA rfl (by omega) hmv')
          rw [World.setCell_alloc_past (hn := hgs)] at HF
          clear hmv' H3 HN HMV HCM hkA hzA
          go_wp2_with fail
          go_meet
          exact ⟨rfl, _, HF.out⟩
  case rest =>
    obtain ⟨rfl, pr, hF⟩ := hcut
    have b0 := hF.out.box.g0.1
    obtain ⟨r0, q0⟩ := hF.out.rb.g0
    have hlt := hF.out.lt
    have e0 := (hF.out.rb.s0 (.slice (some ⟨g, 0, none⟩) l.length cp)).g0.1
    have HD : Hid (DrewA B w c a len cap (.returned (.agg #[.slice (some ⟨g, 0, none⟩) l.length cp])) (wc.setCell ⟨w.heap.size, 0, none⟩ (.slice (some ⟨g, 0, none⟩) l.length cp))) := by
      refine ⟨g, cp, pr, by rw [hF.out.ln], by rw [hF.out.ln]; exact hl4, hF.out.small, ?_, hF.out.at'.set hcw (p := ⟨w.heap.size, 0, none⟩) (Nat.le_refl _) _⟩
      rw [hF.out.ln]
      exact SK.weak (SK.on hF.out.sk ⟨by simp, fun k h1 h2 => Below.heap_setCell wc ⟨w.heap.size, 0, none⟩ _ k (fun e => by have : k = w.heap.size := e; omega)⟩) (by omega)
    go_wp2
    refine bodyPost_ret (v := .agg #[.slice (some ⟨g, 0, none⟩) l.length cp]) (by simp [results, Tryz.results21, go_sem, e0]) rfl ?_
    exact HD.out
end Pg
end Go.Proofs.YtbgbddahniacbaaGreatDoor
