/- The contract of the program's withOnly, handed a closure (W). -/
import Derived.Test.YtdomclicgajihaaJZc6
import Derived.Test.YtdomclicgajihaaJZc4
import Derived.Deep.RegionHeld3
import Derived.Deep.RegionLaw
namespace Go.Proofs.Ytdomclicgajihaa
namespace Pg
open Go.ChangeShapes Go.WideShapes Go.ChangeAt Go.RowKit St
set_option maxRecDepth 100000 in
set_option maxHeartbeats 8000000 in
theorem withOnlyW (B : Nat) (p : Prg) (a : Option Addr) (cap : Nat) (cb : Nat) (G : Nat → Meth → Bool) (hsp : SmallP p) (hn6 : p.length ≤ 6) (w : World) (hp : SK front B w (.slice a p.length cap) p)
    (HW : Hid (∀ (i : Nat) (c : Cls), p[i]? = some c → ∀ X, Below w.heap.size w X → Calls Try.prog 30 #[.int .i64 (i : Int), .pointer (some ⟨cb, 0, none⟩)] X fun e w' => ∃ bo, e = .returned (.agg #[.func (.func 48) #[] #[.pointer (some ⟨bo, 0, none⟩)]]) ∧ Below X.heap.size X w' ∧ Hid (∀ m ∈ c.meths, ∀ va vc, MV front B w va vc m → ∀ Y, Below w'.heap.size w' Y → Calls Try.prog 48 #[.agg #[.int .i64 m.name, va, .int .i64 m.gives, vc], .pointer (some ⟨bo, 0, none⟩)] Y fun e w'' => e = .returned (.bool (G i m)) ∧ Below Y.heap.size Y w''))) :
    Calls Try.prog 23 #[.agg #[.slice a p.length cap], .func (.func 30) #[] #[.pointer (some ⟨cb, 0, none⟩)]] w fun e w' => ∃ v, e = .returned (.agg #[v]) ∧ SK front w.heap.size w' v (keepP G p) ∧ (adP w' v (keepP G p)).Nodup ∧ Below w.heap.size w w' := by
  obtain ⟨jk, hjk, hk0, hk1, hk2⟩ := info_parts infoCl
  have HSP : Hid (SmallP p) := hsp
  have HP : Hid (SK front B w (.slice a p.length cap) p) := hp
  have HKL : Hid ((keepP G p).length = p.length) := keepP_len G p
  clear hp hsp
  obtain ⟨s, hs⟩ : ∃ s, w.heap.size = s := ⟨_, rfl⟩
  obtain ⟨w1, hw1e⟩ : ∃ W, W = (w.alloc (.cells #[.slice a p.length cap] 28)).alloc (.cells #[.slice none 0 0] 28) := ⟨_, rfl⟩
  have hw1 : Below s w w1 := by rw [hw1e, ← hs]; exact ((Below.refl _ _).alloc (Nat.le_refl _) _).alloc (by simp) _
  have P1 : Hid (Cells w1 s [.slice a p.length cap]) := by show Cells _ _ _; rw [hw1e, ← hs]; exact (Cells.new w _ rfl _ _).alloc _
  have R1 : Hid (Cells w1 (s + 1) [.slice none 0 0]) := by show Cells _ _ _; rw [hw1e, ← hs]; exact Cells.new (w.alloc _) _ (by simp) _ _
  rw [hs]
  obtain ⟨kb, hkb⟩ : ∃ kb, w1.heap.size = kb := ⟨_, rfl⟩
  obtain ⟨V, hV⟩ : ∃ V, V = w1.alloc (.cells #[.slice none 0 0] 28) := ⟨_, rfl⟩
  have hb1V : Below w1.heap.size w1 V := by rw [hV]; exact (Below.refl _ _).alloc (Nat.le_refl _) _
  have KV : Hid (Cells V kb [.slice none 0 0]) := by show Cells _ _ _; rw [hV, ← hkb]; exact Cells.new w1 _ rfl _ _
  have PV : Hid (Cells V s [.slice a p.length cap]) := P1.out.on hb1V
  have RV : Hid (Cells V (s + 1) [.slice none 0 0]) := R1.out.on hb1V
  have BV : Below s w V := hw1.trans (hb1V.mono (by have h : s + 1 < w1.heap.size := St.cell_lt R1.out.g0.1; omega))
  have hskb : s + 1 < kb := by rw [← hkb]; exact St.cell_lt R1.out.g0.1
  have hp1 := P1.out.g0.1
  have hpp : (w1.alloc (.cells #[.slice none 0 0] 28)).cell? ⟨s, 0, none⟩ = some (.slice a p.length cap) := by rw [← hV]; exact PV.out.g0.1
  clear P1 R1 hb1V hw1
  go_enter Try.func23, Try.ntmps23
  go_wp2_with fail
  try simp only [hs]
  rw [← hw1e]
  try rw [hkb]
  rw [← hV]
  have hk2 : s + 1 + 1 = kb := by rw [← hkb, hw1e, ← hs]; simp
  rw [hk2]
  clear hV hkb hpp hp1 hw1e hk2
  go_loopw [12] (fun x wr => ∃ (i T : Nat) (v : Value) (l : List (Cls × Value × Value)), i ≤ p.length ∧ x = .int .i64 (i : Int) ∧ Hid (l.map (·.1) = (keepP G p).take i) ∧ Hid (KQ QS (kb + 1) T wr v l) ∧ T ≤ wr.heap.size ∧ Hid (Cells wr kb [v]) ∧ Hid (Cells wr s [.slice a p.length cap]) ∧ Hid (Cells wr (s + 1) [.slice none 0 0]) ∧ Below s w wr) (fun x _ => p.length - (intOf x).toNat)
  case atStart => exact ⟨0, _, _, [], Nat.zero_le _, rfl, rfl, KQ.nil _ _ _ _, Nat.le_refl _, KV.out, PV.out, RV.out, BV⟩
  case round =>
    clear KV PV RV BV
    obtain ⟨i, T, v, l, hi, rfl, hl, hKQ, hT, hK, hP, hR, hb⟩ := hrel
    have hkl : kb < wr.heap.size := St.cell_lt hK.out.g0.1
    by_cases hlt : i < p.length
    · have hii : (i : Int) < (p.length : Int) := by omega
      obtain ⟨b, o, rfl, hBb, vf, vm, d0, d1, d2, hcv⟩ := HP.out.get hlt
      obtain ⟨z1, t1, rfl⟩ := hcv.1.form
      obtain ⟨z2, t2, rfl⟩ := hcv.2.form
      have l0 : b < s := by have := cell_lt d0; rw [← hs]; exact this
      have c0 := (hb.cell l0).trans d0
      have c1 := (hb.cell l0).trans d1
      have c2 := (hb.cell l0).trans d2
      have HPI : Hid (p[i]? = some p[i]) := List.getElem?_eq_getElem hlt
      have HSI : Hid (SI true B w (.slice z1 p[i].fields.length t1) p[i].fields) := hcv.1
      have HSM : Hid (SM front B w (.slice z2 p[i].meths.length t2) p[i].meths) := hcv.2
      have hsc := HSP.out.2 _ (List.getElem_mem hlt)
      have hsf := hsc.1
      have hsl := hsc.2.1
      have HSMM : Hid (∀ m ∈ p[i].meths, SmallM m) := hsc.2.2
      have HL : Hid ((keepP G p).take (i + 1) = (keepP G p).take i ++ [keepC G i p[i]]) := keepP_take G p hlt
      clear hcv hsc d0 d1 d2
      generalize p[i] = c at *
      obtain ⟨V1, hV1⟩ : ∃ V1, V1 = wr.alloc (.cells #[.int .i64 c.super, .slice z1 c.fields.length t1, .slice z2 c.meths.length t2] 63) := ⟨_, rfl⟩
      have hrV : Below wr.heap.size wr V1 := by rw [hV1]; exact (Below.refl _ _).alloc (Nat.le_refl _) _
      have C1 : Hid (Cells V1 wr.heap.size [.int .i64 c.super, .slice z1 c.fields.length t1, .slice z2 c.meths.length t2]) := by show Cells _ _ _; rw [hV1]; exact Cells.new wr _ rfl _ _
      have hsV : s ≤ wr.heap.size := by omega
      have hwV1 : Below s w V1 := hb.trans (hrV.mono hsV)
      have HBW : Hid (B ≤ w.heap.size) := by show _ ≤ _; omega
      have HK : Hid (∀ X, Below V1.heap.size V1 X → Below V1.heap.size V1 X ∧ X.cell? ⟨wr.heap.size, 2, none⟩ = some (.slice z2 c.meths.length t2)) := fun X hX => ⟨hX, (C1.out.on hX).g2.1⟩
      have KD := HK.out _ (Below.refl V1.heap.size V1).drew
      have HWI : Hid (∀ X, Below V1.heap.size V1 X → Calls Try.prog 30 #[.int .i64 (i : Int), .pointer (some ⟨cb, 0, none⟩)] X fun e w' => ∃ bo, e = .returned (.agg #[.func (.func 48) #[] #[.pointer (some ⟨bo, 0, none⟩)]]) ∧ Below X.heap.size X w' ∧ Hid (∀ m ∈ c.meths, ∀ va vc, MV front B w va vc m → ∀ Y, Below w'.heap.size w' Y → Calls Try.prog 48 #[.agg #[.int .i64 m.name, va, .int .i64 m.gives, vc], .pointer (some ⟨bo, 0, none⟩)] Y fun e w'' => e = .returned (.bool (G i m)) ∧ Below Y.heap.size Y w'')) := fun X hX => HW.out i c HPI.out X (by rw [hs]; exact hwV1.trans (hX.mono (by have := hrV.size; omega)))
      have HFI : Hid (∀ (X : World) (bo : Nat), Below V1.heap.size V1 X → Hid (∀ m ∈ c.meths, ∀ va vc, MV front B w va vc m → ∀ Y, Below X.heap.size X Y → Calls Try.prog 48 #[.agg #[.int .i64 m.name, va, .int .i64 m.gives, vc], .pointer (some ⟨bo, 0, none⟩)] Y fun e w'' => e = .returned (.bool (G i m)) ∧ Below Y.heap.size Y w'') → Calls Try.prog 43 #[.agg #[.func (.func 48) #[] #[.pointer (some ⟨bo, 0, none⟩)]], .slice z2 c.meths.length t2] X fun e w' => ∃ gq cq, e = .returned (.slice (some ⟨gq, 0, none⟩) (c.meths.filter (G i)).length cq) ∧ SM front B w' (.slice (some ⟨gq, 0, none⟩) (c.meths.filter (G i)).length cq) (c.meths.filter (G i)) ∧ X.heap.size ≤ gq ∧ gq < w'.heap.size ∧ Below X.heap.size X w') := fun X bo hX hh => by
        have hwX : Below w.heap.size w X := by rw [hs]; exact hwV1.trans (hX.mono (by have := hrV.size; omega))
        exact filterNot B bo (G i) c.meths z2 t2 hsl w X hwX (Nat.le_trans HBW.out hwX.size) HSM.out (fun m hm va vc hmv Y hY => hh.out m hm va vc hmv Y hY)
      go_upto_region 5 with fail
      rw [← hV1]
      clear hV1 c0 c1 c2
      go_region_held3 (fun X => Below V1.heap.size V1 X ∧ X.cell? ⟨wr.heap.size, 2, none⟩ = some (.slice z2 c.meths.length t2))
        (first | exact KD | assumption)
        (first
          | (go_at_call 30; refine (HWI.out _ KD.1).mono ?_; rintro e wA ⟨bo, rfl, hbA, HWA⟩; have KA := HK.out _ (below_over KD.1 hbA))
          | (go_at_call 43; refine (HFI.out _ _ KA.1 HWA).mono ?_; rintro e wB ⟨gq, cq, rfl, hqr, hgq, hgq2, hbB⟩; have KB := HK.out _ (below_over KA.1 hbB)))
      have hrB : Below wr.heap.size wr wB := below_over hrV KB.1
      have HSC : Hid (keepC G i c = ⟨c.super, c.fields, c.meths.filter (G i)⟩) := rfl
      have hfl : (c.meths.filter (G i)).length ≤ 1048576 := Nat.le_trans (List.length_filter_le _ _) hsl
      have HFS : Hid (∀ m ∈ c.meths.filter (G i), SmallM m) := fun m hm => HSMM.out m (List.mem_filter.1 hm).1
      have HQR : Hid (SM front B wB (.slice (some ⟨gq, 0, none⟩) (c.meths.filter (G i)).length cq) (c.meths.filter (G i))) := hqr
      have HSIB : Hid (SI true B wB (.slice z1 c.fields.length t1) c.fields) := SI.on HSI.out (Keep.of (by rw [hs]; exact hb.trans (hrB.mono hsV)))
      have CB : Hid (Cells wB wr.heap.size [.int .i64 c.super, .slice z1 c.fields.length t1, .slice z2 c.meths.length t2]) := C1.out.on KB.1
      have KBB : Hid (Cells wB kb [v]) := hK.out.on hrB
      have PB : Hid (Cells wB s [.slice (some ⟨b, o, none⟩) p.length cap]) := hP.out.on hrB
      have RB : Hid (Cells wB (s + 1) [.slice none 0 0]) := hR.out.on hrB
      have QB : Hid (KQ QS (kb + 1) T wB v l) := hKQ.out.on hrB
      have BB : Hid (Below s w wB) := hb.trans (hrB.mono hsV)
      obtain ⟨av, dv, rfl⟩ := hKQ.out.form
      have HVO : Hid (Zo (.slice av l.length dv) wB.heap.size wB.heap.size) := fun g hg => .inl (Nat.lt_of_lt_of_le (hKQ.out.1.lt g hg).2 hrB.size)
      have hTB : T ≤ wB.heap.size := Nat.le_trans hT hrB.size
      have hkB : kb < wB.heap.size := Nat.lt_of_lt_of_le hkl hrB.size
      have HLEN : Hid (l.length ≤ 6) := by
        show _ ≤ _
        have h := congrArg List.length hl.out
        rw [List.length_map, List.length_take] at h
        omega
      clear hqr hbB KB KA HWA hbA hgq hgq2 KD HK HFI HWI hwV1 C1 hrV HSMM HSM HSI hKQ hK hP hR hb hT HPI
      generalize (c.meths.filter (G i)) = F at *
      obtain ⟨x0, _⟩ := CB.out.g0
      obtain ⟨x1, _⟩ := CB.out.g1
      obtain ⟨y0, _⟩ := KBB.out.g0
      go_upto_region 6 with fail
      go_region_law (first
        | (refine stepAppZ _ rfl (.tmp 24) (.tmp 33) 26 rfl (kb + 1) 63 jk (.agg #[.int .i64 0, .slice none 0 0, .slice none 0 0]) 3 56 Try.underlying26 hjk hk0 hk1 hk2 rfl (by decide) (.slice av l.length dv) l.length (flatK l) (by first | rfl | simp [Act.eval, Act.put]) (QD.out.1.alloc _) ⟨wD.heap.size, 0, none⟩ 1 1 [.int .i64 c.super, .slice xf c.fields.length yf, .slice xm F.length ym] (by first | rfl | simp [Act.eval, Act.put]) rfl (cell_three _ _ _ _ _) (by simp [Value.oneCell']) (by have := HLEN.out; unfold maxLen; omega) (by have := HLEN.out; omega) (by have := HZD.out; simp; omega) ?_; intro v3 w3 hown3 hgrow3 hnil3 hat3; have hq3 := (QD.out.on ((Below.refl _ _).alloc (Nat.le_refl _) _)).snoc (x := (⟨c.super, c.fields, F⟩, .slice xf c.fields.length yf, .slice xm F.length ym)) (L := wB.heap.size) (M := wD.heap.size) hkB hTB HZD.out (HZW.out.on ((Below.refl _ _).alloc (Nat.le_refl _) _)) (fun g hg => .inl (by rcases HVO.out g hg with h | h; exact h; exact absurd (Nat.lt_of_lt_of_le (QB.out.1.lt g hg).2 h) (Nat.lt_irrefl _))) hown3 hgrow3 hat3; obtain ⟨a3, d3, he3⟩ := hq3.form; have he4 : v3 = .slice a3 (l.length + 1) d3 := (by simpa using he3); subst he4; clear he3; have hk3 : w3.heap[kb]? = wD.heap[kb]? := (hgrow3.block kb (by have := HZD.out; simp; omega) (fun e => by have := (QD.out.1.lt kb e.symm).1; omega)).trans (((Below.refl wD.heap.size wD).alloc (Nat.le_refl _) _).block kb (by have := HZD.out; omega)); obtain ⟨y3, q3⟩ := (zcells (KBB.out.on BD.out) hk3).g0)
        | (go_simp; go_at_call 44; refine (cloneInts B z1 t1 c.fields hsf _ (SI.on HSIB.out (Keep.of (Below.refl _ _).drew))).mono ?_; rintro e wC ⟨vC, rfl, hgz, hbC⟩; obtain ⟨xf, yf, rfl⟩ := hgz.form; have HGZ : Hid (GZ wB.heap.size wC.heap.size wC (.slice xf c.fields.length yf) c.fields) := hgz; have BC : Hid (Below wB.heap.size wB wC) := below_over (Below.refl _ _).drew hbC; have x0C := (CB.out.on BC.out).g0.1; have y0C := (KBB.out.on BC.out).g0.1; clear hgz hbC; dsimp only)
        | (go_simp; go_at_call 45; refine (copiedMethods B F (some ⟨gq, 0, none⟩) cq hfl HFS.out _ (SM.on HQR.out (Keep.of BC.out))).mono ?_; rintro e wD ⟨vD, rfl, hsm, hnd, hin, hbD⟩; obtain ⟨xm, ym, rfl⟩ := hsm.form; have BD : Hid (Below wB.heap.size wB wD) := below_over BC.out hbD; have HZW : Hid (Zw wB.heap.size wD.heap.size (fun u => QS wB.heap.size wD.heap.size u (⟨c.super, c.fields, F⟩, .slice xf c.fields.length yf, .slice xm F.length ym)) wD) := qs_of BC.out.size (HGZ.out.on hbD) hsm hnd hin hbD.size; have QD : Hid (KQ QS (kb + 1) T wD (.slice av l.length dv) l) := QB.out.on BD.out; have HZD : Hid (wB.heap.size ≤ wD.heap.size) := BD.out.size; have x0D := (CB.out.on BD.out).g0.1; have y0D := (KBB.out.on BD.out).g0.1; have y0E := ((KBB.out.on BD.out).alloc (.cells #[.int .i64 c.super, .slice xf c.fields.length yf, .slice xm F.length ym] 63)).g0.1; clear hsm hnd hin hbD; dsimp only))
      all_goals
        have hsame : ∀ k, k < kb + 1 → w3.heap[k]? = wD.heap[k]? := fun k hk => (hgrow3.block k (by have := HZD.out; simp; omega) (fun e => by have := (QD.out.1.lt k e.symm).1; omega)).trans (((Below.refl wD.heap.size wD).alloc (Nat.le_refl _) _).block k (by have := HZD.out; omega))
        have HKX : Hid (Cells (w3.setCell ⟨kb, 0, none⟩ (.slice a3 (l.length + 1) d3)) kb [.slice a3 (l.length + 1) d3]) := (zcells (KBB.out.on BD.out) hk3).s0 _
        have HPX : Hid (Cells (w3.setCell ⟨kb, 0, none⟩ (.slice a3 (l.length + 1) d3)) s [.slice (some ⟨b, o, none⟩) p.length cap]) := (zcells (PB.out.on BD.out) (hsame s (by omega))).far _ _ (by show kb ≠ s; omega)
        have HRX : Hid (Cells (w3.setCell ⟨kb, 0, none⟩ (.slice a3 (l.length + 1) d3)) (s + 1) [.slice none 0 0]) := (zcells (RB.out.on BD.out) (hsame (s + 1) (by omega))).far _ _ (by show kb ≠ s + 1; omega)
        have HQX : Hid (KQ QS (kb + 1) wD.heap.size (w3.setCell ⟨kb, 0, none⟩ (.slice a3 (l.length + 1) d3)) (.slice a3 (l.length + 1) d3) (l ++ [(⟨c.super, c.fields, F⟩, .slice xf c.fields.length yf, .slice xm F.length ym)])) := hq3.set (b := kb) (by omega) _
        have hzw : wD.heap.size ≤ w3.heap.size := by have := hgrow3.size; simp at this; omega
        have HTX : wD.heap.size ≤ (w3.setCell ⟨kb, 0, none⟩ (.slice a3 (l.length + 1) d3)).heap.size := by simpa using hzw
        have HBX : Hid (Below s w (w3.setCell ⟨kb, 0, none⟩ (.slice a3 (l.length + 1) d3))) := ((((BB.out.trans (BD.out.mono (by omega))).alloc (by have := HZD.out; omega) _).grown hgrow3 (by have := HZD.out; simp; omega) (fun g hg => by have := (QD.out.1.lt g hg).1; omega))).setCell (p := ⟨kb, 0, none⟩) (by show s ≤ kb; omega) _
        have HLX : Hid ((l ++ [((⟨c.super, c.fields, F⟩ : Cls), Value.slice xf c.fields.length yf, Value.slice xm F.length ym)]).map (·.1) = (keepP G p).take (i + 1)) := by show _ = _; rw [List.map_append, hl.out, HL.out, HSC.out]; rfl
        clear hsame hq3 hk3 hown3 hgrow3 hnil3 hat3
        go_wp2
        go_roundw
        case rel => exact ⟨i + 1, _, _, _, by omega, by go_num, HLX.out, HQX.out, HTX, HKX.out, HPX.out, HRX.out, HBX.out⟩
        case measure => simp [intOf]; omega
    · have hii : ¬ (i : Int) < (p.length : Int) := by omega
      have hl' : l.map (·.1) = keepP G p := by rw [hl.out, List.take_of_length_le (by have := HKL.out; omega)]
      obtain ⟨av, dv, rfl⟩ := hKQ.out.form
      have hND := hKQ.out.nodup
      have hSK := hKQ.out.sk (fun L M u x h => h.1)
      rw [hl'] at hND hSK
      have HKX : SK front (kb + 1) wr (.slice av l.length dv) (keepP G p) := hSK
      have hkeep : Keep (kb + 1) wr (wr.setCell ⟨s + 1, 0, none⟩ (.slice av l.length dv)) := Keep.set wr (p := ⟨s + 1, 0, none⟩) (by show s + 1 < kb + 1; omega) _
      have HSX : Hid (SK front s (wr.setCell ⟨s + 1, 0, none⟩ (.slice av l.length dv)) (.slice av l.length dv) (keepP G p)) := (SK.on HKX hkeep).weak (by omega)
      have HNX : Hid ((adP (wr.setCell ⟨s + 1, 0, none⟩ (.slice av l.length dv)) (.slice av l.length dv) (keepP G p)).Nodup) := by
        show List.Nodup _
        rw [adP_keep HKX hkeep]
        exact hND
      obtain ⟨v0, _⟩ := hK.out.g0
      obtain ⟨r0, q0⟩ := hR.out.g0
      have e0 := (hR.out.s0 (.slice av l.length dv)).g0.1
      have HBX : Hid (Below s w (wr.setCell ⟨s + 1, 0, none⟩ (.slice av l.length dv))) := hb.setCell (p := ⟨s + 1, 0, none⟩) (by show s ≤ s + 1; omega) _
      clear hl' hND hSK HKX hkeep
      go_wp2
      refine bodyPost_ret (v := .agg #[.slice av l.length dv]) (by simp [results, Try.results23, go_sem, e0]) rfl ?_
      first | exact ⟨_, rfl, HSX.out, HNX.out, HBX.out⟩ | exact ⟨rfl, HSX.out, HNX.out, HBX.out⟩
end Pg
end Go.Proofs.Ytdomclicgajihaa
