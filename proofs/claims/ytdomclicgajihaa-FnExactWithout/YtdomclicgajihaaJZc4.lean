/- Contracts: the program's filter of methods, and its Doubles. -/
import Derived.Test.YtdomclicgajihaaJDb2
import Derived.Test.YtdomclicgajihaaJLo0
import Derived.Deep.Cut
import Derived.Deep.RegionHeld3
import Derived.Laws.EntriesVeiled
import Derived.Test.YtdomclicgajihaaJHi1
namespace Go.Proofs.Ytdomclicgajihaa
namespace Pg
open Go.ChangeShapes Go.WideShapes Go.ChangeAt Go.RowKit St

theorem okMB_name {n : Int} {m : Meth} (h : okMB n m = true) : 0 ≤ m.name ∧ m.name ≤ 19 := by
  unfold okMB at h
  simp only [Bool.and_eq_true, decide_eq_true_eq] at h
  exact ⟨h.1.1.1.1.1, h.1.1.1.1.2⟩
theorem name_bd {p : Prg} (hok : okP p = true) {i : Nat} {c : Cls} (hc : p[i]? = some c) {m : Meth} (hm : m ∈ c.meths) : 0 ≤ m.name ∧ m.name ≤ 19 := by
  obtain ⟨hi, _⟩ := List.getElem?_eq_some_iff.1 hc
  have h1 := okP_at hok hi
  rw [okAt_of hc] at h1
  obtain ⟨k, hk, rfl⟩ := List.getElem_of_mem hm
  have h2 := okC_meth h1 hk
  unfold okK at h2
  rw [List.getElem?_eq_getElem hk] at h2
  simp only [Bool.and_eq_true] at h2
  exact okMB_name h2.1.1
theorem meths_few {p : Prg} (hok : okP p = true) {i : Nat} {c : Cls} (hc : p[i]? = some c) : c.meths.length ≤ 4 := by
  obtain ⟨hi, _⟩ := List.getElem?_eq_some_iff.1 hc
  have h1 := okP_at hok hi
  rw [okAt_of hc] at h1
  exact (okC_few h1).2
theorem dblC_len {p : Prg} (hok : okP p = true) {i : Nat} {c : Cls} (hc : p[i]? = some c) : (dblC p i c).length ≤ 4 := by
  unfold dblC
  rw [List.length_map]
  exact Nat.le_trans (List.length_filter_le _ _) (meths_few hok hc)
/-- The numbers of the doubles of the first n classes. -/
def dblT (p : Prg) (n : Nat) : List Int := ((List.range n).map fun i => match p[i]? with | none => [] | some c => dblC p i c).flatten
theorem dblT_succ {p : Prg} {n : Nat} {c : Cls} (hc : p[n]? = some c) : dblT p (n + 1) = dblT p n ++ dblC p n c := by
  unfold dblT
  rw [List.range_succ, List.map_append, List.flatten_append]
  simp [hc]
theorem dblT_len {p : Prg} (hok : okP p = true) : ∀ n, n ≤ p.length → (dblT p n).length ≤ 4 * n
  | 0, _ => by simp [dblT]
  | n + 1, h => by
    rw [dblT_succ (List.getElem?_eq_getElem (show n < p.length by omega)), List.length_append]
    have h1 := dblT_len hok n (by omega)
    have h2 := dblC_len hok (List.getElem?_eq_getElem (show n < p.length by omega))
    omega
theorem dblL_yes {p : Prg} (hok : okP p = true) : dblL p = dblT p p.length := by unfold dblL; rw [if_pos hok]; rfl
theorem dblL_no {p : Prg} (hok : okP p = false) : dblL p = [] := by unfold dblL; rw [hok]; rfl
theorem dblL_len (p : Prg) : (dblL p).length ≤ 24 := by
  cases hok : okP p
  · rw [dblL_no hok]; simp
  · rw [dblL_yes hok]
    have := dblT_len hok p.length (Nat.le_refl _)
    have := (okP_len hok).2
    omega

/-- The function that doublesOf binds. -/
def dblV (b1 b2 : Nat) : Value := .func (.func 46) #[] #[.pointer (some ⟨b1, 0, none⟩), .pointer (some ⟨b2, 0, none⟩)]
set_option maxHeartbeats 1000000 in
theorem doublesOf (a : Option Addr) (n cap : Nat) (t : Int) (w : World) :
    Calls Try.prog 25 #[.agg #[.slice a n cap], .int .i64 t] w fun e w' => e = .returned (.agg #[.func (.func 46) #[] #[.pointer (some ⟨w.heap.size, 0, none⟩), .pointer (some ⟨w.heap.size + 1, 0, none⟩)]]) ∧ w'.cell? ⟨w.heap.size, 0, none⟩ = some (.slice a n cap) ∧ w'.cell? ⟨w.heap.size + 1, 0, none⟩ = some (.int .i64 t) ∧ Below w.heap.size w w' := by
  go_enter Try.func25, Try.ntmps25
  go_wp2
  have hb : Below w.heap.size w (((w.alloc (.cells #[.slice a n cap] 28)).alloc (.cells #[.int .i64 t] 2)).alloc (.cells #[.func (.func 46) #[] #[.pointer (some ⟨w.heap.size, 0, none⟩), .pointer (some ⟨w.heap.size + 1, 0, none⟩)]] 47)) := (((Below.refl _ w).alloc (Nat.le_refl _) _).alloc (by simp) _).alloc (by simp; omega) _
  have h0 : Cells (((w.alloc (.cells #[.slice a n cap] 28)).alloc (.cells #[.int .i64 t] 2)).alloc (.cells #[.func (.func 46) #[] #[.pointer (some ⟨w.heap.size, 0, none⟩), .pointer (some ⟨w.heap.size + 1, 0, none⟩)]] 47)) w.heap.size [.slice a n cap] := ((Cells.new w _ rfl _ _).alloc _).alloc _
  have h1 : Cells (((w.alloc (.cells #[.slice a n cap] 28)).alloc (.cells #[.int .i64 t] 2)).alloc (.cells #[.func (.func 46) #[] #[.pointer (some ⟨w.heap.size, 0, none⟩), .pointer (some ⟨w.heap.size + 1, 0, none⟩)]] 47)) (w.heap.size + 1) [.int .i64 t] := (Cells.new (w.alloc _) _ (by simp) _ _).alloc _
  refine bodyPost_ret (v := .agg #[.func (.func 46) #[] #[.pointer (some ⟨w.heap.size, 0, none⟩), .pointer (some ⟨w.heap.size + 1, 0, none⟩)]]) (by simp [results, Try.results25, go_sem]) rfl ?_
  exact ⟨rfl, h0.g0.1, h1.g0.1, hb⟩
set_option maxHeartbeats 1000000 in
theorem doublesOf1 (B B' : Nat) (p : Prg) (a : Option Addr) (cap : Nat) (t : Nat) (c : Cls) (hc : p[t]? = some c) (hok : okP p = true) (hsp : SmallP p) (b1 b2 : Nat) (m : Meth) (hol : m.code.length ≤ 1048576) (va vc : Value) (w : World) (hp : SK front B w (.slice a p.length cap) p)
    (h1 : w.cell? ⟨b1, 0, none⟩ = some (.slice a p.length cap)) (h2 : w.cell? ⟨b2, 0, none⟩ = some (.int .i64 (t : Int))) (hx : MV front B' w va vc m) :
    Calls Try.prog 46 #[.agg #[.int .i64 m.name, va, .int .i64 m.gives, vc], .pointer (some ⟨b1, 0, none⟩), .pointer (some ⟨b2, 0, none⟩)] w fun e w' => e = .returned (.bool (dblB p c m)) ∧ Below w.heap.size w w' := by
  obtain ⟨f1, g1, rfl⟩ := hx.1.form
  obtain ⟨f2, g2, rfl⟩ := front.form hx.2
  have HX : Hid (CS B' w (.slice f2 m.code.length g2) m.code) := hx.2
  have HP : Hid (SK front B w (.slice a p.length cap) p) := hp
  have hwV : Below w.heap.size w (w.alloc (.cells #[.int .i64 m.name, .slice f1 m.args.length g1, .int .i64 m.gives, .slice f2 m.code.length g2] 52)) := (Below.refl _ _).alloc (Nat.le_refl _) _
  have c1 := (hwV.cell (cell_lt h1)).trans h1
  have c2 := (hwV.cell (cell_lt h2)).trans h2
  have HOK : Hid (okP p = true) := hok
  have HSP : Hid (SmallP p) := hsp
  have HC : Hid (p[t]? = some c) := hc
  clear hx hp h1 h2 hok hsp hc
  go_enter Try.func46, Try.ntmps46
  go_wp2_with fail
  refine (isDouble B B' p a cap t c HC.out HOK.out HSP.out m hol f1 f2 m.args.length g1 g2 _ (SK.on HP.out (Keep.of hwV)) (front.on HX.out (Keep.of hwV))).mono ?_
  rintro e w4 ⟨rfl, hb4⟩
  have hw4 : Below w.heap.size w w4 := below_over hwV hb4
  clear hb4 c1 c2 hwV
  go_wp2
  go_ret
  exact ⟨rfl, hw4⟩
set_option maxRecDepth 100000 in
set_option maxHeartbeats 2000000 in
theorem filterIn (B : Nat) (b1 b2 : Nat) (P : Meth → Bool) (l : List Meth) (a : Option Addr) (cap : Nat) (hl : l.length ≤ 1048576) (w0 w : World) (hb0 : Below w0.heap.size w0 w) (hB : B ≤ w.heap.size) (hm : SM front B w0 (.slice a l.length cap) l)
    (HC : Hid (∀ m ∈ l, ∀ va vc, MV front B w0 va vc m → ∀ W, Below w.heap.size w W → Calls Try.prog 46 #[.agg #[.int .i64 m.name, va, .int .i64 m.gives, vc], .pointer (some ⟨b1, 0, none⟩), .pointer (some ⟨b2, 0, none⟩)] W fun e w' => e = .returned (.bool (P m)) ∧ Below W.heap.size W w')) :
    Calls Try.prog 43 #[.agg #[.func (.func 46) #[] #[.pointer (some ⟨b1, 0, none⟩), .pointer (some ⟨b2, 0, none⟩)]], .slice a l.length cap] w fun e w' => ∃ g c, e = .returned (.slice (some ⟨g, 0, none⟩) (l.filter P).length c) ∧ SM front B w' (.slice (some ⟨g, 0, none⟩) (l.filter P).length c) (l.filter P) ∧ w.heap.size ≤ g ∧ g < w'.heap.size ∧ Below w.heap.size w w' := by
  obtain ⟨j0, hj, hy0, hy1, hy2⟩ := info_parts infoMM
  have HM : Hid (SM front B w0 (.slice a l.length cap) l) := hm
  have HB : Hid (B ≤ w.heap.size) := hB
  obtain ⟨W, hW⟩ : ∃ W, W = w.alloc (.cells #[.func (.func 46) #[] #[.pointer (some ⟨b1, 0, none⟩), .pointer (some ⟨b2, 0, none⟩)]] 47) := ⟨_, rfl⟩
  have hwW : Below w.heap.size w W := by rw [hW]; exact (Below.refl _ _).alloc (Nat.le_refl _) _
  have F0 : Hid (Cells W w.heap.size [.func (.func 46) #[] #[.pointer (some ⟨b1, 0, none⟩), .pointer (some ⟨b2, 0, none⟩)]]) := by rw [hW]; exact Cells.new w _ rfl _ _
  have HZ : Hid (W.heap.size = w.heap.size + 1) := by show _ = _; rw [hW]; simp
  have G0 : Hid (GrowM W.heap.size (W.alloc (.cells #[] 52)) (.slice (some ⟨W.heap.size, 0, none⟩) 0 0) []) := growM_nil W
  clear hm hB
  go_enter Try.func43, Try.ntmps43
  go_wp2
  rw [← HZ.out, ← hW]
  clear hW
  go_loopw [5, 11] (fun y i wr => ∃ (k : Nat) (ls : List (Meth × Value × Value)) (v0 : Value), k ≤ l.length ∧ i = .int .i64 (k : Int) ∧ v0 = y ∧ Hid (ls.map (·.1) = (l.take k).filter P) ∧ Hid (GrowM W.heap.size wr v0 ls) ∧ Hid (∀ x ∈ ls, MV front B w0 x.2.1 x.2.2 x.1) ∧ Below W.heap.size W wr) (fun _ i _ => l.length - (intOf i).toNat)
  case atStart => exact ⟨0, [], _, Nat.zero_le _, rfl, rfl, rfl, G0.out, (fun x hx => by simp at hx), (Below.refl _ _).alloc (Nat.le_refl _) _⟩
  case round =>
    clear G0
    obtain ⟨k, ls, v0, hk, rfl, rfl, hls, hg, hd, hb⟩ := hrel
    have hwr : Below w.heap.size w wr := hwW.trans (hb.mono hwW.size)
    obtain ⟨g, cp, rfl, hgB, hgl⟩ := hg.out.form
    have hln : ls.length ≤ k := by
      have h1 := congrArg List.length hls.out
      rw [List.length_map] at h1
      have h2 := List.length_filter_le P (l.take k)
      rw [List.length_take] at h2
      omega
    by_cases hlt : k < l.length
    · have hki : (k : Int) < (l.length : Int) := by omega
      obtain ⟨b, o, rfl, _, va, vc, d0, d1, d2, d3, hmv⟩ := HM.out.get hlt
      have l0 : b < w0.heap.size := cell_lt d0
      have hw0 : Below w0.heap.size w0 wr := below_over hb0 hwr
      have c0 := (hw0.cell l0).trans d0
      have c1 := (hw0.cell l0).trans d1
      have c2 := (hw0.cell l0).trans d2
      have c3 := (hw0.cell l0).trans d3
      have HST : Hid ((l.take (k + 1)).filter P = (l.take k).filter P ++ if P l[k] then [l[k]] else []) := by
        show _ = _
        rw [List.take_succ_eq_append_getElem hlt, List.filter_append]
        rw [List.filter_cons]
        simp only [List.filter_nil]
      have HCK := HC.out l[k] (List.getElem_mem hlt) va vc hmv
      have HMV : Hid (MV front B w0 va vc l[k]) := hmv
      clear hw0 d0 d1 d2 d3 hmv
      generalize l[k] = m at *
      obtain ⟨x1, y1, rfl⟩ := HMV.out.1.form
      obtain ⟨x2, y2, rfl⟩ := front.form HMV.out.2
      obtain ⟨V, hV⟩ : ∃ V, V = wr.alloc (.cells #[.int .i64 m.name, .slice x1 m.args.length y1, .int .i64 m.gives, .slice x2 m.code.length y2] 52) := ⟨_, rfl⟩
      have hbV : Below W.heap.size W V := by rw [hV]; exact hb.alloc hb.size _
      have hrV : Below wr.heap.size wr V := by rw [hV]; exact (Below.refl _ _).alloc (Nat.le_refl _) _
      have M0 : Hid (Cells V wr.heap.size [.int .i64 m.name, .slice x1 m.args.length y1, .int .i64 m.gives, .slice x2 m.code.length y2]) := by rw [hV]; exact Cells.new wr _ rfl _ _
      have hwV : Below w.heap.size w V := hwW.trans (hbV.mono hwW.size)
      have HGV : Hid (GrowM W.heap.size V (.slice (some ⟨g, 0, none⟩) ls.length cp) ls) := hg.out.on hrV
      obtain ⟨f0, _⟩ := (cells_lowP F0.out hbV (by have := HZ.out; omega)).g0
      obtain ⟨m0, _⟩ := M0.out.g0
      obtain ⟨m1, _⟩ := M0.out.g1
      obtain ⟨m2, _⟩ := M0.out.g2
      obtain ⟨m3, _⟩ := M0.out.g3
      go_upto_region 5 with fail
      rw [← hV]
      clear hV c0 c1 c2 c3 hg hrV
      go_wp2_with fail
      refine (HCK V hwV).mono ?_
      rintro e w1 ⟨rfl, hb1⟩
      have hbW1 : Below W.heap.size W w1 := hbV.trans (hb1.mono hbV.size)
      have HG1 : Hid (GrowM W.heap.size w1 (.slice (some ⟨g, 0, none⟩) ls.length cp) ls) := HGV.out.on hb1
      have M1 := M0.out.on hb1
      clear m0 m1 m2 m3 f0
      obtain ⟨m0, _⟩ := M1.g0
      obtain ⟨m1, _⟩ := M1.g1
      obtain ⟨m2, _⟩ := M1.g2
      obtain ⟨m3, _⟩ := M1.g3
      clear M1 M0 HGV hb1 hbV hwr hb hwV HCK
      cases hq : P m
      · have HLS : Hid (ls.map (·.1) = (l.take (k + 1)).filter P) := by show _ = _; rw [HST.out, hq, hls.out]; simp
        clear HST hls hq
        go_wp2
        go_roundw
        case rel => exact ⟨k + 1, ls, _, by omega, by go_num, rfl, HLS.out, HG1.out, hd.out, hbW1⟩
        case measure => simp [intOf]; omega
      · have HLS : Hid ((ls ++ [(m, Value.slice x1 m.args.length y1, Value.slice x2 m.code.length y2)]).map (·.1) = (l.take (k + 1)).filter P) := by show _ = _; rw [HST.out, hq, List.map_append, hls.out]; simp
        have HD : Hid (∀ x ∈ ls ++ [(m, Value.slice x1 m.args.length y1, Value.slice x2 m.code.length y2)], MV front B w0 x.2.1 x.2.2 x.1) := fun x hx => by
          rcases List.mem_append.1 hx with h | h
          · exact hd.out x h
          · rw [List.mem_singleton.1 h]; exact HMV.out
        have HCF : Hid (∀ (j : Nat) (u : Value), [Value.int .i64 m.name, .slice x1 m.args.length y1, .int .i64 m.gives, .slice x2 m.code.length y2][j]? = some u → (w1.alloc (.cells #[.int .i64 m.name, .slice x1 m.args.length y1, .int .i64 m.gives, .slice x2 m.code.length y2] 52)).cell? ((⟨w1.heap.size, 0, none⟩ : Addr).add j) = some u) := cell_four w1 _ _ _ _ _
        clear HST hls hq hd HMV
        go_wp2_with (at_builtin; refine wpList_append_own _ rfl _ _ 61 rfl W.heap.size 52 j0 (.agg #[.int .i64 0, .slice none 0 0, .int .i64 0, .slice none 0 0]) 4 64 Try.underlying61 hj hy0 hy1 hy2 rfl (by decide) (.slice (some ⟨g, 0, none⟩) ls.length cp) ls.length (flatM ls) rfl (HG1.out.1.alloc _) ⟨w1.heap.size, 0, none⟩ 1 1 [.int .i64 m.name, .slice x1 m.args.length y1, .int .i64 m.gives, .slice x2 m.code.length y2] rfl rfl HCF.out (by simp [Value.oneCell']) (by unfold maxLen; omega) (by omega) (by have := hbW1.size; simp; omega) ?_)
        intro v3 w3 hown3 hgrow3 hnil3
        have hg3 : GrowM W.heap.size w3 v3 (ls ++ [(m, Value.slice x1 m.args.length y1, Value.slice x2 m.code.length y2)]) := GrowM.next hown3 (fun h => by first | exact hnil3 h | exact absurd (hnil3.1 h).1 (by simp))
        have hb3 : Below W.heap.size W w3 := (hbW1.alloc hbW1.size _).grown hgrow3 (by have := hbW1.size; simp; omega) (fun k hk => by simp [Value.ownBlock] at hk; subst hk; exact hgB)
        have HG3 : Hid (GrowM W.heap.size w3 v3 (ls ++ [(m, Value.slice x1 m.args.length y1, Value.slice x2 m.code.length y2)])) := hg3
        clear hown3 hgrow3 hnil3 hg3 m0 m1 m2 m3 HCF hbW1 HG1
        go_wp2
        go_roundw
        case rel => exact ⟨k + 1, _, v3, by omega, by go_num, rfl, HLS.out, HG3.out, HD.out, hb3⟩
        case measure => simp [intOf]; omega
    · have hki : ¬ (k : Int) < (l.length : Int) := by omega
      have HF : Hid (ls.map (·.1) = l.filter P) := by
        show _ = _
        rw [hls.out, List.take_of_length_le (by omega)]
      have hle : ls.length = (l.filter P).length := by rw [← HF.out, List.length_map]
      have hw0 : Below w0.heap.size w0 wr := below_over hb0 hwr
      have HS : Hid (SM front B wr (.slice (some ⟨g, 0, none⟩) (l.filter P).length cp) (l.filter P)) := by
        have h := hg.out.sm (B := B) (by have := HB.out; have := HZ.out; omega) (fun x hx => (hd.out x hx).on (Keep.of hw0))
        rw [HF.out, hle] at h
        exact h
      rw [hle]
      have hgw : w.heap.size ≤ g := Nat.le_trans (by have := HZ.out; omega) hgB
      have hgw : w.heap.size ≤ g := Nat.le_trans (by have := HZ.out; omega) hgB
      have hgw : w.heap.size ≤ g := Nat.le_trans (by have := HZ.out; omega) hgB
      have hgw : w.heap.size ≤ g := Nat.le_trans (by have := HZ.out; omega) hgB
      have hgw : w.heap.size ≤ g := Nat.le_trans (by have := HZ.out; omega) hgB
      have hgw : w.heap.size ≤ g := Nat.le_trans (by have := HZ.out; omega) hgB
      clear hls hg hd hle HF hw0 hln
      go_wp2
      go_ret
      exact ⟨g, cp, rfl, HS.out, hgw, hgl, hwr⟩
end Pg
end Go.Proofs.Ytdomclicgajihaa

/- Contracts: the program's filter of what another leaves out. -/
namespace Go.Proofs.Ytdomclicgajihaa
namespace Pg
open Go.ChangeShapes Go.WideShapes Go.ChangeAt Go.RowKit St

set_option maxHeartbeats 1000000 in
theorem others (b1 b2 : Nat) (w : World) :
    Calls Try.prog 26 #[.agg #[.func (.func 46) #[] #[.pointer (some ⟨b1, 0, none⟩), .pointer (some ⟨b2, 0, none⟩)]]] w fun e w' => e = .returned (.agg #[.func (.func 48) #[] #[.pointer (some ⟨w.heap.size, 0, none⟩)]]) ∧ w'.cell? ⟨w.heap.size, 0, none⟩ = some (.func (.func 46) #[] #[.pointer (some ⟨b1, 0, none⟩), .pointer (some ⟨b2, 0, none⟩)]) ∧ Below w.heap.size w w' := by
  go_enter Try.func26, Try.ntmps26
  go_wp2
  have hb : Below w.heap.size w ((w.alloc (.cells #[.func (.func 46) #[] #[.pointer (some ⟨b1, 0, none⟩), .pointer (some ⟨b2, 0, none⟩)]] 47)).alloc (.cells #[.func (.func 48) #[] #[.pointer (some ⟨w.heap.size, 0, none⟩)]] 47)) := ((Below.refl _ w).alloc (Nat.le_refl _) _).alloc (by simp) _
  have h0 : Cells ((w.alloc (.cells #[.func (.func 46) #[] #[.pointer (some ⟨b1, 0, none⟩), .pointer (some ⟨b2, 0, none⟩)]] 47)).alloc (.cells #[.func (.func 48) #[] #[.pointer (some ⟨w.heap.size, 0, none⟩)]] 47)) w.heap.size [.func (.func 46) #[] #[.pointer (some ⟨b1, 0, none⟩), .pointer (some ⟨b2, 0, none⟩)]] := (Cells.new w _ rfl _ _).alloc _
  refine bodyPost_ret (v := .agg #[.func (.func 48) #[] #[.pointer (some ⟨w.heap.size, 0, none⟩)]]) (by simp [results, Try.results26, go_sem]) rfl ?_
  exact ⟨rfl, h0.g0.1, hb⟩
set_option maxHeartbeats 1000000 in
theorem others1 (b1 b2 bo : Nat) (m : Meth) (va vc : Value) (hva : ∃ a c, va = .slice a m.args.length c) (hvc : ∃ a c, vc = .slice a m.code.length c) (b : Bool) (w : World) (h0 : w.cell? ⟨bo, 0, none⟩ = some (.func (.func 46) #[] #[.pointer (some ⟨b1, 0, none⟩), .pointer (some ⟨b2, 0, none⟩)]))
    (HC : Hid (∀ W, Below w.heap.size w W → Calls Try.prog 46 #[.agg #[.int .i64 m.name, va, .int .i64 m.gives, vc], .pointer (some ⟨b1, 0, none⟩), .pointer (some ⟨b2, 0, none⟩)] W fun e w' => e = .returned (.bool b) ∧ Below W.heap.size W w')) :
    Calls Try.prog 48 #[.agg #[.int .i64 m.name, va, .int .i64 m.gives, vc], .pointer (some ⟨bo, 0, none⟩)] w fun e w' => e = .returned (.bool (!b)) ∧ Below w.heap.size w w' := by
  obtain ⟨a1, c1, rfl⟩ := hva
  obtain ⟨a2, c2, rfl⟩ := hvc
  have hwV : Below w.heap.size w (w.alloc (.cells #[.int .i64 m.name, .slice a1 m.args.length c1, .int .i64 m.gives, .slice a2 m.code.length c2] 52)) := (Below.refl _ _).alloc (Nat.le_refl _) _
  have hf := (hwV.cell (cell_lt h0)).trans h0
  go_enter Try.func48, Try.ntmps48
  go_wp2_with fail
  refine (HC.out _ hwV).mono ?_
  rintro e w4 ⟨rfl, hb4⟩
  have hw4 : Below w.heap.size w w4 := below_over hwV hb4
  clear hb4 hf hwV
  go_wp2
  go_ret
  exact ⟨rfl, hw4⟩
set_option maxRecDepth 100000 in
set_option maxHeartbeats 2000000 in
theorem filterNot (B : Nat) (bo : Nat) (P : Meth → Bool) (l : List Meth) (a : Option Addr) (cap : Nat) (hl : l.length ≤ 1048576) (w0 w : World) (hb0 : Below w0.heap.size w0 w) (hB : B ≤ w.heap.size) (hm : SM front B w0 (.slice a l.length cap) l)
    (HC : Hid (∀ m ∈ l, ∀ va vc, MV front B w0 va vc m → ∀ W, Below w.heap.size w W → Calls Try.prog 48 #[.agg #[.int .i64 m.name, va, .int .i64 m.gives, vc], .pointer (some ⟨bo, 0, none⟩)] W fun e w' => e = .returned (.bool (P m)) ∧ Below W.heap.size W w')) :
    Calls Try.prog 43 #[.agg #[.func (.func 48) #[] #[.pointer (some ⟨bo, 0, none⟩)]], .slice a l.length cap] w fun e w' => ∃ g c, e = .returned (.slice (some ⟨g, 0, none⟩) (l.filter P).length c) ∧ SM front B w' (.slice (some ⟨g, 0, none⟩) (l.filter P).length c) (l.filter P) ∧ w.heap.size ≤ g ∧ g < w'.heap.size ∧ Below w.heap.size w w' := by
  obtain ⟨j0, hj, hy0, hy1, hy2⟩ := info_parts infoMM
  have HM : Hid (SM front B w0 (.slice a l.length cap) l) := hm
  have HB : Hid (B ≤ w.heap.size) := hB
  obtain ⟨W, hW⟩ : ∃ W, W = w.alloc (.cells #[.func (.func 48) #[] #[.pointer (some ⟨bo, 0, none⟩)]] 47) := ⟨_, rfl⟩
  have hwW : Below w.heap.size w W := by rw [hW]; exact (Below.refl _ _).alloc (Nat.le_refl _) _
  have F0 : Hid (Cells W w.heap.size [.func (.func 48) #[] #[.pointer (some ⟨bo, 0, none⟩)]]) := by rw [hW]; exact Cells.new w _ rfl _ _
  have HZ : Hid (W.heap.size = w.heap.size + 1) := by show _ = _; rw [hW]; simp
  have G0 : Hid (GrowM W.heap.size (W.alloc (.cells #[] 52)) (.slice (some ⟨W.heap.size, 0, none⟩) 0 0) []) := growM_nil W
  clear hm hB
  go_enter Try.func43, Try.ntmps43
  go_wp2
  rw [← HZ.out, ← hW]
  clear hW
  go_loopw [5, 11] (fun y i wr => ∃ (k : Nat) (ls : List (Meth × Value × Value)) (v0 : Value), k ≤ l.length ∧ i = .int .i64 (k : Int) ∧ v0 = y ∧ Hid (ls.map (·.1) = (l.take k).filter P) ∧ Hid (GrowM W.heap.size wr v0 ls) ∧ Hid (∀ x ∈ ls, MV front B w0 x.2.1 x.2.2 x.1) ∧ Below W.heap.size W wr) (fun _ i _ => l.length - (intOf i).toNat)
  case atStart => exact ⟨0, [], _, Nat.zero_le _, rfl, rfl, rfl, G0.out, (fun x hx => by simp at hx), (Below.refl _ _).alloc (Nat.le_refl _) _⟩
  case round =>
    clear G0
    obtain ⟨k, ls, v0, hk, rfl, rfl, hls, hg, hd, hb⟩ := hrel
    have hwr : Below w.heap.size w wr := hwW.trans (hb.mono hwW.size)
    obtain ⟨g, cp, rfl, hgB, hgl⟩ := hg.out.form
    have hln : ls.length ≤ k := by
      have h1 := congrArg List.length hls.out
      rw [List.length_map] at h1
      have h2 := List.length_filter_le P (l.take k)
      rw [List.length_take] at h2
      omega
    by_cases hlt : k < l.length
    · have hki : (k : Int) < (l.length : Int) := by omega
      obtain ⟨b, o, rfl, _, va, vc, d0, d1, d2, d3, hmv⟩ := HM.out.get hlt
      have l0 : b < w0.heap.size := cell_lt d0
      have hw0 : Below w0.heap.size w0 wr := below_over hb0 hwr
      have c0 := (hw0.cell l0).trans d0
      have c1 := (hw0.cell l0).trans d1
      have c2 := (hw0.cell l0).trans d2
      have c3 := (hw0.cell l0).trans d3
      have HST : Hid ((l.take (k + 1)).filter P = (l.take k).filter P ++ if P l[k] then [l[k]] else []) := by
        show _ = _
        rw [List.take_succ_eq_append_getElem hlt, List.filter_append]
        rw [List.filter_cons]
        simp only [List.filter_nil]
      have HCK := HC.out l[k] (List.getElem_mem hlt) va vc hmv
      have HMV : Hid (MV front B w0 va vc l[k]) := hmv
      clear hw0 d0 d1 d2 d3 hmv
      generalize l[k] = m at *
      obtain ⟨x1, y1, rfl⟩ := HMV.out.1.form
      obtain ⟨x2, y2, rfl⟩ := front.form HMV.out.2
      obtain ⟨V, hV⟩ : ∃ V, V = wr.alloc (.cells #[.int .i64 m.name, .slice x1 m.args.length y1, .int .i64 m.gives, .slice x2 m.code.length y2] 52) := ⟨_, rfl⟩
      have hbV : Below W.heap.size W V := by rw [hV]; exact hb.alloc hb.size _
      have hrV : Below wr.heap.size wr V := by rw [hV]; exact (Below.refl _ _).alloc (Nat.le_refl _) _
      have M0 : Hid (Cells V wr.heap.size [.int .i64 m.name, .slice x1 m.args.length y1, .int .i64 m.gives, .slice x2 m.code.length y2]) := by rw [hV]; exact Cells.new wr _ rfl _ _
      have hwV : Below w.heap.size w V := hwW.trans (hbV.mono hwW.size)
      have HGV : Hid (GrowM W.heap.size V (.slice (some ⟨g, 0, none⟩) ls.length cp) ls) := hg.out.on hrV
      obtain ⟨f0, _⟩ := (cells_lowP F0.out hbV (by have := HZ.out; omega)).g0
      obtain ⟨m0, _⟩ := M0.out.g0
      obtain ⟨m1, _⟩ := M0.out.g1
      obtain ⟨m2, _⟩ := M0.out.g2
      obtain ⟨m3, _⟩ := M0.out.g3
      go_upto_region 5 with fail
      rw [← hV]
      clear hV c0 c1 c2 c3 hg hrV
      go_wp2_with fail
      refine (HCK V hwV).mono ?_
      rintro e w1 ⟨rfl, hb1⟩
      have hbW1 : Below W.heap.size W w1 := hbV.trans (hb1.mono hbV.size)
      have HG1 : Hid (GrowM W.heap.size w1 (.slice (some ⟨g, 0, none⟩) ls.length cp) ls) := HGV.out.on hb1
      have M1 := M0.out.on hb1
      clear m0 m1 m2 m3 f0
      obtain ⟨m0, _⟩ := M1.g0
      obtain ⟨m1, _⟩ := M1.g1
      obtain ⟨m2, _⟩ := M1.g2
      obtain ⟨m3, _⟩ := M1.g3
      clear M1 M0 HGV hb1 hbV hwr hb hwV HCK
      cases hq : P m
      · have HLS : Hid (ls.map (·.1) = (l.take (k + 1)).filter P) := by show _ = _; rw [HST.out, hq, hls.out]; simp
        clear HST hls hq
        go_wp2
        go_roundw
        case rel => exact ⟨k + 1, ls, _, by omega, by go_num, rfl, HLS.out, HG1.out, hd.out, hbW1⟩
        case measure => simp [intOf]; omega
      · have HLS : Hid ((ls ++ [(m, Value.slice x1 m.args.length y1, Value.slice x2 m.code.length y2)]).map (·.1) = (l.take (k + 1)).filter P) := by show _ = _; rw [HST.out, hq, List.map_append, hls.out]; simp
        have HD : Hid (∀ x ∈ ls ++ [(m, Value.slice x1 m.args.length y1, Value.slice x2 m.code.length y2)], MV front B w0 x.2.1 x.2.2 x.1) := fun x hx => by
          rcases List.mem_append.1 hx with h | h
          · exact hd.out x h
          · rw [List.mem_singleton.1 h]; exact HMV.out
        have HCF : Hid (∀ (j : Nat) (u : Value), [Value.int .i64 m.name, .slice x1 m.args.length y1, .int .i64 m.gives, .slice x2 m.code.length y2][j]? = some u → (w1.alloc (.cells #[.int .i64 m.name, .slice x1 m.args.length y1, .int .i64 m.gives, .slice x2 m.code.length y2] 52)).cell? ((⟨w1.heap.size, 0, none⟩ : Addr).add j) = some u) := cell_four w1 _ _ _ _ _
        clear HST hls hq hd HMV
        go_wp2_with (at_builtin; refine wpList_append_own _ rfl _ _ 61 rfl W.heap.size 52 j0 (.agg #[.int .i64 0, .slice none 0 0, .int .i64 0, .slice none 0 0]) 4 64 Try.underlying61 hj hy0 hy1 hy2 rfl (by decide) (.slice (some ⟨g, 0, none⟩) ls.length cp) ls.length (flatM ls) rfl (HG1.out.1.alloc _) ⟨w1.heap.size, 0, none⟩ 1 1 [.int .i64 m.name, .slice x1 m.args.length y1, .int .i64 m.gives, .slice x2 m.code.length y2] rfl rfl HCF.out (by simp [Value.oneCell']) (by unfold maxLen; omega) (by omega) (by have := hbW1.size; simp; omega) ?_)
        intro v3 w3 hown3 hgrow3 hnil3
        have hg3 : GrowM W.heap.size w3 v3 (ls ++ [(m, Value.slice x1 m.args.length y1, Value.slice x2 m.code.length y2)]) := GrowM.next hown3 (fun h => by first | exact hnil3 h | exact absurd (hnil3.1 h).1 (by simp))
        have hb3 : Below W.heap.size W w3 := (hbW1.alloc hbW1.size _).grown hgrow3 (by have := hbW1.size; simp; omega) (fun k hk => by simp [Value.ownBlock] at hk; subst hk; exact hgB)
        have HG3 : Hid (GrowM W.heap.size w3 v3 (ls ++ [(m, Value.slice x1 m.args.length y1, Value.slice x2 m.code.length y2)])) := hg3
        clear hown3 hgrow3 hnil3 hg3 m0 m1 m2 m3 HCF hbW1 HG1
        go_wp2
        go_roundw
        case rel => exact ⟨k + 1, _, v3, by omega, by go_num, rfl, HLS.out, HG3.out, HD.out, hb3⟩
        case measure => simp [intOf]; omega
    · have hki : ¬ (k : Int) < (l.length : Int) := by omega
      have HF : Hid (ls.map (·.1) = l.filter P) := by
        show _ = _
        rw [hls.out, List.take_of_length_le (by omega)]
      have hle : ls.length = (l.filter P).length := by rw [← HF.out, List.length_map]
      have hw0 : Below w0.heap.size w0 wr := below_over hb0 hwr
      have HS : Hid (SM front B wr (.slice (some ⟨g, 0, none⟩) (l.filter P).length cp) (l.filter P)) := by
        have h := hg.out.sm (B := B) (by have := HB.out; have := HZ.out; omega) (fun x hx => (hd.out x hx).on (Keep.of hw0))
        rw [HF.out, hle] at h
        exact h
      rw [hle]
      have hgw : w.heap.size ≤ g := Nat.le_trans (by have := HZ.out; omega) hgB
      have hgw : w.heap.size ≤ g := Nat.le_trans (by have := HZ.out; omega) hgB
      have hgw : w.heap.size ≤ g := Nat.le_trans (by have := HZ.out; omega) hgB
      have hgw : w.heap.size ≤ g := Nat.le_trans (by have := HZ.out; omega) hgB
      have hgw : w.heap.size ≤ g := Nat.le_trans (by have := HZ.out; omega) hgB
      have hgw : w.heap.size ≤ g := Nat.le_trans (by have := HZ.out; omega) hgB
      clear hls hg hd hle HF hw0 hln
      go_wp2
      go_ret
      exact ⟨g, cp, rfl, HS.out, hgw, hgl, hwr⟩
end Pg
end Go.Proofs.Ytdomclicgajihaa
