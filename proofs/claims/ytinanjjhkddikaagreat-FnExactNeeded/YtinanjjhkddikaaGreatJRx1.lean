/- What is reached: the specification's sweeps in memory. -/
import Derived.Test.YtinanjjhkddikaaGreatJSg4
import Derived.Test.YtinanjjhkddikaaGreatJGl0
import Derived.Test.YtinanjjhkddikaaGreatJHi6
import Derived.Test.YtinanjjhkddikaaGreatJPs1
import Derived.Lib.QuietBelow
import Derived.BigQuiet
import Derived.Deep.Cut
import Derived.Deep.CutRange
import Derived.Deep.CutBlock
namespace Go.Proofs.YtinanjjhkddikaaGreat
namespace Pg
open Go.ChangeShapes Go.WideShapes Go.ChangeAt Go.RowKit St Wd

theorem hid_of {p : Prop} (h : p) : Hid p := h
theorem ins_A {i : Tx.Ins} (h : Tx.okI i.1 i.2.1 i.2.2 = true) (h14 : i.1 = 14 ∨ i.1 = 17) : 0 ≤ i.2.1 := by
  unfold Tx.okI at h
  rw [if_neg (by omega)] at h
  unfold Tx.limA at h
  simp only [Bool.and_eq_true, decide_eq_true_eq] at h
  rcases h14 with e | e
  · rw [e] at h; simp at h; omega
  · rw [e] at h; simp at h; omega
def lenV : Value → Nat
  | .slice _ n _ => n
  | _ => 0
/-- What has been asked of the first j reached steps of a method. -/
def AskJ (p : Prg) (M0 L0 : List Int) (code : List Tx.Ins) (j : Nat) : Prop := ∀ a, a < j → ∀ t, (risL (rchB code) 40)[a]? = some t → Stp p M0 L0 (insF code t.toNat)
/-- What has been asked of the first b made classes, for a call. -/
def AskB (p : Prg) (M0 L0 : List Int) (A B : Int) (b : Nat) : Prop := ∀ a, a < b → ∀ d, M0[a]? = some d → undB p d A = true → 0 ≤ selF p d B → selF p d B * 20 + B ∈ L0
theorem AskK.next {p : Prg} (hok : okP p = true) {M0 L0 : List Int} {k c n : Nat} (h : AskK p M0 L0 k) (hx : L0[k]? = some (((c * 20 + n : Nat)) : Int)) (hn : n < 20) {cl : Cls} {own : Meth} (hc : p[c]? = some cl) (ho : ownF cl (n : Int) = some own)
    (hj : AskJ p M0 L0 own.code (risL (rchB own.code) 40).length) : AskK p M0 L0 (k + 1) := by
  intro j hj' x hx' c' n' i he hr hi
  rcases Nat.lt_or_ge j k with h1 | h1
  · exact h j h1 x hx' c' n' i he hr hi
  · obtain rfl : j = k := by omega
    rw [hx] at hx'
    injection hx' with hx'
    have hn' := rd_name hok hr
    obtain rfl : c' = c := by omega
    obtain rfl : n' = (n : Int) := by omega
    obtain ⟨cl', own', t, h2, h3, h4, h5, rfl⟩ := hi
    rw [hc] at h2
    injection h2 with h2
    subst h2
    rw [ho] at h3
    injection h3 with h3
    subst h3
    have h40 := (Lay.ok_len (own_code hok hc ho)).2
    have hm : ((t : Nat) : Int) ∈ risL (rchB own.code) 40 := risL_mem.2 ⟨t, by omega, h5, rfl⟩
    obtain ⟨a, ha, hat⟩ := List.getElem_of_mem hm
    have := hj a ha _ (by rw [List.getElem?_eq_getElem ha, hat])
    rwa [Int.toNat_natCast] at this
theorem AskJ.next {p : Prg} {M0 L0 : List Int} {code : List Tx.Ins} {j : Nat} (h : AskJ p M0 L0 code j) {t : Nat} (ht : (risL (rchB code) 40)[j]? = some ((t : Nat) : Int)) (hs : Stp p M0 L0 (insF code t)) : AskJ p M0 L0 code (j + 1) := by
  intro a ha x hx
  rcases Nat.lt_or_ge a j with h1 | h1
  · exact h a h1 x hx
  · obtain rfl : a = j := by omega
    rw [ht] at hx
    injection hx with hx
    subst hx
    rw [Int.toNat_natCast]
    exact hs
theorem AskB.next {p : Prg} {M0 L0 : List Int} {A B : Int} {b : Nat} (h : AskB p M0 L0 A B b) (hs : ∀ d, M0[b]? = some d → undB p d A = true → 0 ≤ selF p d B → selF p d B * 20 + B ∈ L0) : AskB p M0 L0 A B (b + 1) := by
  intro a ha d hd
  rcases Nat.lt_or_ge a b with h1 | h1
  · exact h a h1 d hd
  · obtain rfl : a = b := by omega
    exact hs d hd
theorem stp_far {p : Prg} {M0 L0 : List Int} {i : Tx.Ins} (h : (p.length : Int) ≤ i.2.1) : Stp p M0 L0 i := ⟨fun _ h1 => by omega, fun _ h1 => by omega⟩
theorem stp_other {p : Prg} {M0 L0 : List Int} {i : Tx.Ins} (h1 : i.1 ≠ 14) (h2 : i.1 ≠ 17) : Stp p M0 L0 i := ⟨fun h => absurd h h1, fun h => absurd h h2⟩
theorem stp_new {p : Prg} {M0 L0 : List Int} {i : Tx.Ins} (h : i.1 = 14) (hA : i.2.1 ∈ M0) : Stp p M0 L0 i := ⟨fun _ _ => hA, fun h2 => by omega⟩
theorem stp_call {p : Prg} {M0 L0 : List Int} {i : Tx.Ins} (h : i.1 = 17) (h1 : 0 ≤ selF p i.2.1 i.2.2 → selF p i.2.1 i.2.2 * 20 + i.2.2 ∈ L0) (h2 : AskB p M0 L0 i.2.1 i.2.2 M0.length) : Stp p M0 L0 i := by
  refine ⟨fun h3 => by omega, fun _ _ => ⟨h1, fun d hd hu hs => ?_⟩⟩
  obtain ⟨a, ha, had⟩ := List.getElem_of_mem hd
  exact h2 a ha d (by rw [List.getElem?_eq_getElem ha, had]) hu hs
set_option maxRecDepth 100000 in
set_option maxHeartbeats 8000000 in
theorem l14Reach_at (Bp : Nat) (p : Prg) (bp po cap : Nat) (hok : okP p = true) (hsp : SmallP p) (w : World) (hp : SK front Bp w (.slice (some ⟨bp, po, none⟩) p.length cap) p) :
    Calls Tryz.prog 25 #[.agg #[.slice (some ⟨bp, po, none⟩) p.length cap]] w fun e w' => ∃ v1 v2, e = .returned (.tuple #[v1, v2]) ∧ LstB w.heap.size w' v1 (risL (madB p) 6) ∧ LstB w.heap.size w' v2 (risL (livB p) 120) ∧ Below w.heap.size w w' := by
  have h6 := (okP_len hok).2
  have hsup := okP_sup hok
  obtain ⟨W, hW⟩ : ∃ W, W = ((w.alloc (.cells #[.slice (some ⟨bp, po, none⟩) p.length cap] 30)).alloc (.cells #[.int .i64 0] 2)).alloc (.cells #[.int .i64 0] 2) := ⟨_, rfl⟩
  have hwW : Below w.heap.size w W := by rw [hW]; exact (((Below.refl _ _).alloc (Nat.le_refl _) _).alloc (by simp) _).alloc (by simp; omega) _
  have P0 : Hid (Cells W w.heap.size [.slice (some ⟨bp, po, none⟩) p.length cap]) := by rw [hW]; exact ((Cells.new w _ rfl _ _).alloc _).alloc _
  have C1 : Cells W (w.heap.size + 1) [.int .i64 0] := by rw [hW]; exact (Cells.new (w.alloc _) _ (by simp) _ _).alloc _
  have C2 : Cells W (w.heap.size + 1 + 1) [.int .i64 0] := by rw [hW]; exact Cells.new ((w.alloc _).alloc _) _ (by simp) _ _
  have L1 : Hid (LstB w.heap.size W (.slice (some ⟨w.heap.size + 1, 0, none⟩) 1 1) [0]) := ⟨_, 1, rfl, Nat.le_refl _, by omega, cell_lt C1.g0.1, fun j x hj => by
    match j, hj with
    | 0, hj => simp at hj; subst hj; exact C1.g0.1
    | j + 1, hj => simp at hj⟩
  have L2 : Hid (LstB w.heap.size W (.slice (some ⟨w.heap.size + 1 + 1, 0, none⟩) 1 1) [0]) := ⟨_, 1, rfl, Nat.le_refl _, by omega, cell_lt C2.g0.1, fun j x hj => by
    match j, hj with
    | 0, hj => simp at hj; subst hj; exact C2.g0.1
    | j + 1, hj => simp at hj⟩
  have HP : Hid (SK front Bp w (.slice (some ⟨bp, po, none⟩) p.length cap) p) := hp
  have HOK : Hid (okP p = true) := hok
  have HSP : Hid (SmallP p) := hsp
  have HSU : Hid (SupOk p p.length) := hsup
  have HPR : Hid (∀ x, Below W.heap.size W x → SK front Bp x (.slice (some ⟨bp, po, none⟩) p.length cap) p ∧ Cells x w.heap.size [.slice (some ⟨bp, po, none⟩) p.length cap] ∧ Below w.heap.size w x) := fun x hx => ⟨SK.on hp (Keep.of (below_over hwW hx)), P0.out.on hx, below_over hwW hx⟩
  have HB0 : Hid (w.heap.size ≤ W.heap.size) := hwW.size
  clear hp hok hsp hsup C1 C2
  go_enter Tryz.func25, Tryz.ntmps25
  go_wp2
  rw [← hW]
  clear hW
  go_loopw [4, 5] (fun s4 s5 wr => ∃ (M L : List Int), Hid (SndR p M L) ∧ Hid (LstB w.heap.size wr s4 M) ∧ Hid (LstB w.heap.size wr s5 L) ∧ lenV s4 = M.length ∧ lenV s5 = L.length ∧ Below W.heap.size W wr) (fun s4 s5 _ => 126 - (lenV s4 + lenV s5))
  case atStart => exact ⟨[0], [0], SndR.start p, L1.out, L2.out, rfl, rfl, Below.refl _ _⟩
  case round =>
    clear L1 L2
    obtain ⟨M0, L0, hS0, hl4, hl5, hn4, hn5, hb0⟩ := hrel
    obtain ⟨g4, c4, rfl, hc4, hg4, hgw4, hi4⟩ := hl4.out
    obtain ⟨g5, c5, rfl, hc5, hg5, hgw5, hi5⟩ := hl5.out
    have hM6 := hS0.out.lenM HOK.out
    have hL120 := hS0.out.lenL HOK.out
    have HSW0 : Hid (Swe p M0 L0 M0 L0 (AskK p M0 L0 0)) := Swe.start hS0.out fun j hj => absurd hj (Nat.not_lt_zero j)
    clear hc4 hg4 hgw4 hi4 hc5 hg5 hgw5 hi5 hn4 hn5
    go_wp2
    go_loopw [4, 5, 7] (fun s4 s5 s7 wr => ∃ (k : Nat) (M L : List Int), s7 = .int .i64 (k : Int) ∧ k ≤ L.length ∧ Hid (Swe p M0 L0 M L (AskK p M0 L0 k)) ∧ Hid (LstB w.heap.size wr s4 M) ∧ Hid (LstB w.heap.size wr s5 L) ∧ Below W.heap.size W wr) (fun _ _ s7 _ => 121 - (intOf s7).toNat)
    case atStart => exact ⟨0, M0, L0, rfl, Nat.zero_le _, HSW0.out, hl4.out, hl5.out, hb0⟩
    case round =>
      clear hl4 hl5 hb0 HSW0
      obtain ⟨k, M, L, rfl, hk, hSW, hl4, hl5, hb⟩ := hrel
      obtain ⟨g4, c4, rfl, hc4, hg4, hgw4, hi4⟩ := hl4.out
      obtain ⟨g5, c5, rfl, hc5, hg5, hgw5, hi5⟩ := hl5.out
      have hM6' := hSW.out.snd.lenM HOK.out
      have hL120' := hSW.out.snd.lenL HOK.out
      have I4 : Hid (IRow wr g4 0 M) := hi4
      have I5 : Hid (IRow wr g5 0 L) := hi5
      clear hi4 hi5
      by_cases hlt : k < L.length
      · have hki : (k : Int) < (L.length : Int) := by omega
        have hLk : L[k]? = some L[k] := List.getElem?_eq_getElem hlt
        obtain ⟨c, n, hx, hn20, hcl, hrd, cl, own, hcl2, hown⟩ := hSW.out.snd.atL HOK.out (List.getElem_mem hlt)
        have hxn : L[k] = ((c * 20 + n : Nat) : Int) := by rw [hx]; omega
        rw [hxn] at hLk
        have cx := I5.out k _ hLk
        rw [Nat.zero_add] at cx
        have hq1 : (((c * 20 + n : Nat)) : Int).tdiv 20 = (c : Int) := by
          rw [show ((20 : Int)) = ((20 : Nat) : Int) from rfl, ← Int.ofNat_tdiv]
          congr 1; omega
        have hq2 : (((c * 20 + n : Nat)) : Int).tmod 20 = (n : Int) := by
          rw [show ((20 : Int)) = ((20 : Nat) : Int) from rfl, ← Int.ofNat_tmod]
          congr 1; omega
        generalize hxx : c * 20 + n = xx at *
        obtain ⟨hsk, hpc, _⟩ := HPR.out _ hb
        have hcls : p[c] = cl := by have := List.getElem?_eq_getElem hcl; rw [hcl2] at this; exact (Option.some.inj this).symm
        obtain ⟨b', o', he', _, vf, vm, d0, d1, d2, hcv⟩ := hsk.get hcl
        simp only [Option.some.injEq, Addr.mk.injEq, and_true] at he'
        obtain ⟨rfl, rfl⟩ := he'
        rw [hcls] at d0 hcv
        obtain ⟨z1, t1, rfl⟩ := hcv.1.form
        obtain ⟨z2, t2, rfl⟩ := hcv.2.form
        have hsl : cl.meths.length ≤ 1048576 := by have := (HSP.out.2 _ (List.getElem_mem hcl)).2.1; rwa [hcls] at this
        obtain ⟨jm, mm, hjm, hjmm, hoi, hoo⟩ : ∃ jm mm, jm < cl.meths.length ∧ cl.meths[jm]? = some mm ∧ ownI cl (n : Int) = (jm : Int) ∧ ownF cl (n : Int) = some mm := by
          rcases ownI_cases cl (n : Int) with ⟨_, h⟩ | h
          · rw [hown] at h; simp at h
          · exact h
        obtain rfl : mm = own := by rw [hown] at hoo; exact (Option.some.inj hoo).symm
        have hmeq : cl.meths[jm] = mm := by have := List.getElem?_eq_getElem hjm; rw [hjmm] at this; exact (Option.some.inj this).symm
        obtain ⟨b2, o2, rfl, _, va, vc, m0, m1, m2, m3, hmv⟩ := hcv.2.get hjm
        rw [hmeq] at m0 m2 hmv
        obtain ⟨gc, cc, rfl, _, hgc, hrow, _⟩ := hmv.2
        have HRW : Hid (Row wr gc 0 mm.code) := hrow
        have HCD : Hid (Lay.codeOk mm.code = true) := own_code HOK.out hcl2 hown
        have HSM : Hid (SM front Bp wr (.slice (some ⟨b2, o2, none⟩) cl.meths.length t2) cl.meths) := hcv.2
        have hcall := fun u (hu : Below wr.heap.size wr u) => l4Own Bp cl z1 (some ⟨b2, o2, none⟩) t2 cl.fields.length t1 (n : Int) hsl u (SM.on HSM.out (Keep.of hu))
        rw [hoi] at hcall
        have hci : (c : Int) < (p.length : Int) := by omega
        have hjmi : (jm : Int) < (cl.meths.length : Int) := by omega
        have q0 := cell_regrown hpc.g0.1
        have q1 := cell_regrown d0
        have q2 := cell_regrown d1
        have q3 := cell_regrown d2
        have q4 := cell_regrown cx
        have q5 := cell_regrown m3
        have cQ : ∀ d os, Calls Tryz.prog 42 #[.agg #[.int .i64 cl.super, .slice z1 cl.fields.length t1, .slice (some ⟨b2, o2, none⟩) cl.meths.length t2], .int .i64 (n : Int)] (Sort.grow (redrawn wr d) os) fun e w'' => e = .returned (.int .i64 (jm : Int)) ∧ ∃ p : Regrown, w'' = Sort.grow (redrawn wr p.d) p.os := fun d os => (hcall _ (below_regrown wr d os)).regrown_of
        have hown' := hown
        clear hcall hcv hmv hsk hrow m0 m1 m2 hoo hown hoi HSM
        go_upto_region 8 with fail
        refine wp_region_quiet_below (by kernel_rfl) (by kernel_rfl) ?_
        repeat (go_big_quiet_step ((go_at_call 42; exact cQ _ _)))
        refine wpQuiet_nil ?_
        intro _ hw'
        obtain ⟨⟨dq, osq⟩, hw''⟩ := hw'
        subst hw''
        have hbq := below_regrown wr dq osq
        have hbv : Below W.heap.size W (Sort.grow (redrawn wr dq) osq) := below_over hb hbq
        have HRV : Hid (Row (Sort.grow (redrawn wr dq) osq) gc 0 mm.code) := HRW.out.on hbq
        have HL4 : Hid (LstB w.heap.size (Sort.grow (redrawn wr dq) osq) (.slice (some ⟨g4, 0, none⟩) M.length c4) M) := hl4.out.on hbq
        have HL5 : Hid (LstB w.heap.size (Sort.grow (redrawn wr dq) osq) (.slice (some ⟨g5, 0, none⟩) L.length c5) L) := hl5.out.on hbq
        clear q0 q1 q2 q3 q4 q5 cQ hbq hpc d0 d1 d2 m3 cx I4 I5 hl4 hl5 HRW hb hki hx hxn
        generalize Sort.grow (redrawn wr dq) osq = V at *
        have h40 := (Lay.ok_len HCD.out).2
        go_wp2_with fail
        refine (l9Reached_at gc cc mm.code HCD.out V HRV.out).mono ?_
        rintro e w1 ⟨x, rfl, ⟨gr, cr, rfl, _, _, hir⟩, hb1⟩
        have HIR : Hid (IRow w1 gr 0 (risL (rchB mm.code) 40)) := hir
        have HRW1 : Hid (Row w1 gc 0 mm.code) := HRV.out.on hb1
        have hl41 : Hid (LstB w.heap.size w1 (.slice (some ⟨g4, 0, none⟩) M.length c4) M) := HL4.out.on hb1
        have hl51 : Hid (LstB w.heap.size w1 (.slice (some ⟨g5, 0, none⟩) L.length c5) L) := HL5.out.on hb1
        have hbw1 : Below W.heap.size W w1 := below_over hbv hb1
        have hr40 : (risL (rchB mm.code) 40).length ≤ 40 := rise_fits (risL_rise _ _) fun x hx => by obtain ⟨j, hj, _, rfl⟩ := risL_mem.1 hx; omega
        have HSJ : Hid (Swe p M0 L0 M L ((AskK p M0 L0 k ∧ L0[k]? = some ((xx : Nat) : Int)) ∧ AskJ p M0 L0 mm.code 0)) := ⟨hSW.out.snd, hSW.out.subM, hSW.out.subL, hSW.out.leM, hSW.out.leL, fun e => by
          obtain ⟨_, e2, q⟩ := hSW.out.same hS0.out e
          exact ⟨⟨q, by rw [← e2]; exact hLk⟩, fun j hj => absurd hj (Nat.not_lt_zero j)⟩⟩
        have HRUN : Hid (∀ t : Nat, ((t : Nat) : Int) ∈ risL (rchB mm.code) 40 → t < mm.code.length ∧ Runs p c (n : Int) (insF mm.code t)) := fun t ht => by
          obtain ⟨j, hj, hjr, hje⟩ := risL_mem.1 ht
          obtain rfl : t = j := by omega
          have hlt := (rchB_iff.1 hjr).lt (Lay.ok_len HCD.out).1
          exact ⟨hlt, cl, mm, t, hcl2, hown', hlt, hjr, rfl⟩
        have HNX : Hid (∀ {M L : List Int}, Swe p M0 L0 M L ((AskK p M0 L0 k ∧ L0[k]? = some ((xx : Nat) : Int)) ∧ AskJ p M0 L0 mm.code (risL (rchB mm.code) 40).length) → Swe p M0 L0 M L (AskK p M0 L0 (k + 1))) := fun h => h.weak fun ⟨⟨hq, hx'⟩, hj⟩ => by
          rw [← hxx] at hx'
          exact hq.next HOK.out hx' hn20 hcl2 hown' hj
        have HAT : Hid (∀ j x, (risL (rchB mm.code) 40)[j]? = some x → ∃ t : Nat, x = (t : Int) ∧ t < mm.code.length ∧ Runs p c (n : Int) (insF mm.code t)) := fun j x hx => by
          have hm := List.mem_of_getElem? hx
          obtain ⟨t, _, _, rfl⟩ := risL_mem.1 hm
          exact ⟨t, rfl, HRUN.out t hm⟩
        have HNXJ : Hid (∀ (Q : Prop) (M L : List Int) (j t : Nat), (risL (rchB mm.code) 40)[j]? = some ((t : Nat) : Int) → Swe p M0 L0 M L (Q ∧ AskJ p M0 L0 mm.code j) → Swe p M0 L0 M L (AskJ p M0 L0 mm.code j → Stp p M0 L0 (insF mm.code t)) → Swe p M0 L0 M L (Q ∧ AskJ p M0 L0 mm.code (j + 1))) := fun Q M L j t ht h1 h2 =>
          ⟨h1.snd, h1.subM, h1.subL, h1.leM, h1.leL, fun e => ⟨(h1.asks e).1, (h1.asks e).2.next ht (h2.asks e (h1.asks e).2)⟩⟩
        have hkl : k + 1 ≤ L.length := hlt
        clear hb1 hir HL4 HL5 HRV hbv hSW hlt hLk HRUN hq1 hq2 hxx hown' hjm hjmm hmeq hjmi hci hcls hgc hc4 hg4 hgw4 hc5 hg5 hgw5 hk
        have hrd' : Hid (Rd p true c (n : Int)) := hrd
        clear hrd
        generalize hQQ : (AskK p M0 L0 k ∧ L0[k]? = some ((xx : Nat) : Int)) = QQ at *
        generalize hrs : risL (rchB mm.code) 40 = rs at *
        clear hQQ hrs
        go_wp2
        go_loopw [4, 5, 11] (fun s4 s5 s11 wr => ∃ (j : Nat) (M L : List Int), s11 = .int .i64 (j : Int) ∧ j ≤ rs.length ∧ k + 1 ≤ L.length ∧ Hid (Swe p M0 L0 M L (QQ ∧ AskJ p M0 L0 mm.code j)) ∧ Hid (LstB w.heap.size wr s4 M) ∧ Hid (LstB w.heap.size wr s5 L) ∧ Below w1.heap.size w1 wr) (fun _ _ s11 _ => rs.length - (intOf s11).toNat)
        case atStart => exact ⟨0, M, L, rfl, Nat.zero_le _, hkl, HSJ.out, hl41.out, hl51.out, Below.refl _ _⟩
        case round =>
          clear HSJ hl41 hl51 hkl hM6' hL120'
          obtain ⟨j, M, L, rfl, hj, hkl, hSW, hl4, hl5, hb⟩ := hrel
          obtain ⟨g4, c4, rfl, _, _, _, _⟩ := hl4.out
          obtain ⟨g5, c5, rfl, _, _, _, _⟩ := hl5.out
          have hM6 := hSW.out.snd.lenM HOK.out
          have hL120 := hSW.out.snd.lenL HOK.out
          have hbW : Below W.heap.size W wr := below_over hbw1 hb
          by_cases hlt : j < rs.length
          · have hji : (j : Int) < (rs.length : Int) := by omega
            have hrj : rs[j]? = some rs[j] := List.getElem?_eq_getElem hlt
            obtain ⟨t, ht, htl, hrun⟩ := HAT.out j _ hrj
            rw [ht] at hrj
            have cr0 := (HIR.out.on hb) j _ hrj
            rw [Nat.zero_add] at cr0
            obtain ⟨i0, i1, i2⟩ := (HRW1.out.on hb) t _ (ins_is htl)
            have htli : (t : Int) < (mm.code.length : Int) := by omega
            have HNJ : Hid (Swe p M0 L0 M L (AskJ p M0 L0 mm.code j → Stp p M0 L0 (insF mm.code t)) → Swe p M0 L0 M L (QQ ∧ AskJ p M0 L0 mm.code (j + 1))) := fun h => HNXJ.out QQ M L j t hrj hSW.out h
            have HNJ2 : Hid (∀ M L : List Int, Swe p M0 L0 M L (QQ ∧ AskJ p M0 L0 mm.code j) → Swe p M0 L0 M L (AskJ p M0 L0 mm.code j → Stp p M0 L0 (insF mm.code t)) → Swe p M0 L0 M L (QQ ∧ AskJ p M0 L0 mm.code (j + 1))) := fun M L h1 h2 => HNXJ.out QQ M L j t hrj h1 h2
            have HRI : Hid (Runs p c (n : Int) (insF mm.code t)) := hrun
            have HOI : Hid (Tx.okI (insF mm.code t).1 (insF mm.code t).2.1 (insF mm.code t).2.2 = true) := runs_ok HOK.out hrun
            have hpc := (HPR.out _ hbW).2.1.g0.1
            clear hrun ht hlt
            generalize insF mm.code t = ii at *
            obtain ⟨op, A, Bi⟩ := ii
            simp only [Nat.zero_add] at i0 i1 i2
            obtain ⟨V, hV⟩ : ∃ V, V = wr.alloc (.cells #[.int .i64 op, .int .i64 A, .int .i64 Bi] 73) := ⟨_, rfl⟩
            have hwV : Below wr.heap.size wr V := by rw [hV]; exact (Below.refl _ _).alloc (Nat.le_refl _) _
            have CI : Hid (Cells V wr.heap.size [.int .i64 op, .int .i64 A, .int .i64 Bi]) := by rw [hV]; exact Cells.new wr _ rfl _ _
            have hl4V : Hid (LstB w.heap.size V (.slice (some ⟨g4, 0, none⟩) M.length c4) M) := hl4.out.on hwV
            have hl5V : Hid (LstB w.heap.size V (.slice (some ⟨g5, 0, none⟩) L.length c5) L) := hl5.out.on hwV
            have hb1V : Below w1.heap.size w1 V := below_over hb hwV
            have hbWV : Below W.heap.size W V := below_over hbW hwV
            go_upto_region 14 with fail
            rw [← hV]
            clear hV i0 i1 i2 cr0 hpc hl4 hl5 hb hbW
            have HSW : Hid (Swe p M0 L0 M L (QQ ∧ AskJ p M0 L0 mm.code j)) := hSW.out
            clear hSW
            have p0 := (HPR.out _ hbWV).2.1.g0.1
            obtain ⟨j0, _⟩ := CI.out.g0
            obtain ⟨j1, _⟩ := CI.out.g1
            obtain ⟨j2, _⟩ := CI.out.g2
            by_cases hfar : (p.length : Int) ≤ A
            · have HN := hid_of (HNJ.out ⟨HSW.out.snd, HSW.out.subM, HSW.out.subL, HSW.out.leM, HSW.out.leL, fun _ _ => stp_far hfar⟩)
              have hge : A ≥ (p.length : Int) := hfar
              clear HNJ HSW
              go_wp2
              go_roundw
              case rel => exact ⟨j + 1, M, L, by go_num, by omega, hkl, HN.out, hl4V.out, hl5V.out, hb1V⟩
              case measure => simp [intOf]; omega
            · have hAl : A < (p.length : Int) := by omega
              have hnge : ¬ A ≥ (p.length : Int) := hfar
              by_cases h14 : op = 14
              · subst h14
                have hA0 : 0 ≤ A := ins_A HOI.out (.inl rfl)
                obtain ⟨An, rfl⟩ := Int.eq_ofNat_of_zero_le hA0
                have hmade : Hid (Rd p false An 0) := .new hrd'.out HRI.out rfl rfl (by omega)
                have HPM := hid_of (HSW.out.putM hS0.out hmade.out)
                have HN := hid_of (HNJ2.out (putL M (An : Int)) L (HPM.out.weak fun h => h.1) (HPM.out.weak fun h _ => stp_new rfl h.2))
                go_wp2_with fail
                refine (l1PutB w.heap.size M _ (An : Int) (by omega) _ (Nat.le_trans HB0.out hbWV.size) hl4V.out).mono ?_
                rintro e w5 ⟨v', rfl, hlv, hb5⟩
                have HLV : Hid (LstB w.heap.size w5 v' (putL M (An : Int))) := hlv
                have hl5W : Hid (LstB w.heap.size w5 (.slice (some ⟨g5, 0, none⟩) L.length c5) L) := hl5V.out.on hb5
                have hb15 : Below w1.heap.size w1 w5 := below_over hb1V hb5
                clear hlv hb5 HNJ HSW HPM
                go_wp2
                go_roundw
                case rel => exact ⟨j + 1, putL M (An : Int), L, by go_num, by omega, hkl, HN.out, HLV.out, hl5W.out, hb15⟩
                case measure => simp [intOf]; omega
              · by_cases h17 : op = 17
                · subst h17
                  have hA0 : 0 ≤ A := ins_A HOI.out (.inr rfl)
                  have hBn := call_name HOI.out rfl
                  dsimp only at hBn
                  obtain ⟨hBn0, hBn1⟩ := hBn
                  obtain ⟨An, rfl⟩ := Int.eq_ofNat_of_zero_le hA0
                  go_wp2_with fail
                  refine (l5Selected Bp p (some ⟨bp, po, none⟩) cap (An : Int) Bi (by omega) hAl HSP.out h6 HSU.out V (HPR.out _ hbWV).1).mono ?_
                  rintro e w5 ⟨rfl, hb5⟩
                  have HSEL : Hid (∀ sN : Nat, selF p (An : Int) Bi = (sN : Int) → sN < p.length ∧ Rd p true sN Bi) := fun sN h => by
                    obtain ⟨cl', _, h1, _⟩ := sel_there h
                    exact ⟨(List.getElem?_eq_some_iff.1 h1).1, .call hrd'.out HRI.out rfl rfl (by omega) h⟩
                  have HSS : Hid (selF p (An : Int) Bi = selF p (An : Int) Bi) := rfl
                  obtain ⟨s0, hs0⟩ : ∃ s0, s0 = selF p (An : Int) Bi := ⟨_, rfl⟩
                  have HSE : Hid (s0 = selF p (An : Int) Bi) := hs0
                  rw [← hs0] at HSEL ⊢
                  have CI5 : Hid (Cells w5 wr.heap.size [.int .i64 17, .int .i64 (An : Int), .int .i64 Bi]) := CI.out.on hb5
                  have hl4W : Hid (LstB w.heap.size w5 (.slice (some ⟨g4, 0, none⟩) M.length c4) M) := hl4V.out.on hb5
                  have hl5W : Hid (LstB w.heap.size w5 (.slice (some ⟨g5, 0, none⟩) L.length c5) L) := hl5V.out.on hb5
                  have hb15 : Below w1.heap.size w1 w5 := below_over hb1V hb5
                  have hbW5 : Below W.heap.size W w5 := below_over hbWV hb5
                  clear hs0 hb5 hl4V hl5V hb1V j0 j1 j2 p0 CI HSS
                  obtain ⟨j1, _⟩ := CI5.out.g1
                  obtain ⟨j2, _⟩ := CI5.out.g2
                  go_upto_if 92 with fail
                  go_cut [5] from 56 to 130 (fun s5 u => ∃ L', Hid (LstB w.heap.size u s5 L') ∧ L.length ≤ L'.length ∧ Hid (Swe p M0 L0 M L' ((QQ ∧ AskJ p M0 L0 mm.code j) ∧ (0 ≤ s0 → s0 * 20 + Bi ∈ L0))) ∧ Below w5.heap.size w5 u)
                  case first =>
                    by_cases hs : 0 ≤ s0
                    · obtain ⟨sN, rfl⟩ := Int.eq_ofNat_of_zero_le hs
                      obtain ⟨hsl2, hrs⟩ := HSEL.out sN rfl
                      have hge : (sN : Int) ≥ 0 := hs
                      have hPL := HSW.out.putL hS0.out hrs
                      have HPL : Hid (Swe p M0 L0 M (putL L ((sN : Int) * 20 + Bi)) ((QQ ∧ AskJ p M0 L0 mm.code j) ∧ (0 ≤ (sN : Int) → (sN : Int) * 20 + Bi ∈ L0))) := hPL.weak fun h => ⟨h.1, fun _ => h.2⟩
                      have hlen := putL_ge ((sN : Int) * 20 + Bi) L
                      clear hPL hrs
                      go_wp2_with fail
                      refine (l1PutB w.heap.size L _ ((sN : Int) * 20 + Bi) (by omega) _ (Nat.le_trans HB0.out hbW5.size) hl5W.out).mono ?_
                      rintro e w6 ⟨v', rfl, hlv, hb6⟩
                      have HLV : Hid (LstB w.heap.size w6 v' (putL L ((sN : Int) * 20 + Bi))) := hlv
                      clear hlv
                      go_wp2_with fail
                      go_meet
                      exact ⟨_, HLV.out, hlen, HPL.out, hb6⟩
                    · have hge : ¬ s0 ≥ 0 := hs
                      have HPL : Hid (Swe p M0 L0 M L ((QQ ∧ AskJ p M0 L0 mm.code j) ∧ (0 ≤ s0 → s0 * 20 + Bi ∈ L0))) := HSW.out.weak fun h => ⟨h, fun h => absurd h hs⟩
                      go_wp2_with fail
                      go_meet
                      exact ⟨L, hl5W.out, Nat.le_refl _, HPL.out, Below.refl _ _⟩
                  case rest =>
                    obtain ⟨L', hlL, hlen, hSP, hbc⟩ := hcut
                    have hbW6 : Below W.heap.size W wc := below_over hbW5 hbc
                    have hb16 : Below w1.heap.size w1 wc := below_over hb15 hbc
                    have CI6 : Hid (Cells wc wr.heap.size [.int .i64 17, .int .i64 (An : Int), .int .i64 Bi]) := CI5.out.on hbc
                    have hl46 : Hid (LstB w.heap.size wc (.slice (some ⟨g4, 0, none⟩) M.length c4) M) := hl4W.out.on hbc
                    clear j1 j2 CI5 hl4W hl5W hb15 hbW5 hbc HSW HNJ
                    have hk1 : k + 1 ≤ L'.length := by omega
                    obtain ⟨g5', c5', rfl, _, _, _, _⟩ := hlL.out
                    obtain ⟨ga, ca, hea, _, _, _, hia⟩ := hl46.out
                    simp only [Value.slice.injEq, Option.some.injEq, Addr.mk.injEq, and_true, true_and] at hea
                    obtain ⟨rfl, rfl⟩ := hea
                    have I46 : Hid (IRow wc g4 0 M) := hia
                    have HSNM : Hid (∀ x ∈ M, ∃ c : Nat, x = (c : Int) ∧ Rd p false c 0) := hSP.out.snd.sm
                    obtain ⟨Q1, hQ1⟩ : ∃ Q1 : Prop, Q1 = ((QQ ∧ AskJ p M0 L0 mm.code j) ∧ (0 ≤ s0 → s0 * 20 + Bi ∈ L0)) := ⟨_, rfl⟩
                    have HQ4 : Hid (Swe p M0 L0 M L' (Q1 ∧ AskB p M0 L0 (An : Int) Bi 0)) := hSP.out.weak fun h => ⟨by rw [hQ1]; exact h, fun a ha => absurd ha (Nat.not_lt_zero a)⟩
                    have HEND : Hid (∀ L2 : List Int, Swe p M0 L0 M L2 (Q1 ∧ AskB p M0 L0 (An : Int) Bi M.length) → Swe p M0 L0 M L2 (QQ ∧ AskJ p M0 L0 mm.code (j + 1))) := fun L2 h => by
                      rw [hQ1] at h
                      refine HNJ2.out M L2 (h.weak fun q => q.1.1) ⟨h.snd, h.subM, h.subL, h.leM, h.leL, fun e _ => ?_⟩
                      obtain ⟨e1, _, q⟩ := h.same hS0.out e
                      refine stp_call rfl ?_ ?_
                      · have := q.1.2
                        rw [HSE.out] at this
                        exact this
                      · have := q.2
                        rwa [e1] at this
                    clear hQ1 hSP hlen hia HNJ2
                    go_wp2
                    go_loopw [5, 14] (fun s5 s14 wr => ∃ (b : Nat) (L2 : List Int), s14 = .int .i64 (b : Int) ∧ b ≤ M.length ∧ k + 1 ≤ L2.length ∧ Hid (Swe p M0 L0 M L2 (Q1 ∧ AskB p M0 L0 (An : Int) Bi b)) ∧ Hid (LstB w.heap.size wr s5 L2) ∧ Below wc.heap.size wc wr) (fun _ s14 _ => M.length - (intOf s14).toNat)
                    case atStart => exact ⟨0, L', rfl, Nat.zero_le _, hk1, HQ4.out, hlL.out, Below.refl _ _⟩
                    case round =>
                      clear HQ4 hlL hk1
                      obtain ⟨b, L2, rfl, hbM, hkl2, hSQ, hl5x, hbx⟩ := hrel
                      obtain ⟨g5, c5, rfl, _, _, _, _⟩ := hl5x.out
                      have hL2 := hSQ.out.snd.lenL HOK.out
                      have hbWx : Below W.heap.size W wr := below_over hbW6 hbx
                      by_cases hlt : b < M.length
                      · have hbi : (b : Int) < (M.length : Int) := by omega
                        have hMb : M[b]? = some M[b] := List.getElem?_eq_getElem hlt
                        obtain ⟨dN, hd, hrdm⟩ := HSNM.out _ (List.getElem_mem hlt)
                        rw [hd] at hMb
                        have hdl := (rd_there HOK.out hrdm).1 rfl
                        have cm := (I46.out.on hbx) b _ hMb
                        rw [Nat.zero_add] at cm
                        have HBN : Hid (∀ (L3 : List Int) (X : Prop), Swe p M0 L0 M L3 ((Q1 ∧ AskB p M0 L0 (An : Int) Bi b) ∧ X) → (X → undB p (dN : Int) (An : Int) = true → 0 ≤ selF p (dN : Int) Bi → selF p (dN : Int) Bi * 20 + Bi ∈ L0) → Swe p M0 L0 M L3 (Q1 ∧ AskB p M0 L0 (An : Int) Bi (b + 1))) := fun L3 X h hX =>
                          ⟨h.snd, h.subM, h.subL, h.leM, h.leL, fun e => by
                            obtain ⟨e1, _, q⟩ := h.same hS0.out e
                            refine ⟨q.1.1, q.1.2.next fun d hd' hu' hs' => ?_⟩
                            rw [← e1, hMb] at hd'
                            injection hd' with hd'
                            subst hd'
                            exact hX q.2 hu' hs'⟩
                        have HRM : Hid (Rd p false dN 0) := hrdm
                        have p0 := (HPR.out _ hbWx).2.1.g0.1
                        obtain ⟨j1, _⟩ := (CI6.out.on hbx).g1
                        obtain ⟨j2, _⟩ := (CI6.out.on hbx).g2
                        have q0 := cell_regrown p0
                        have q1 := cell_regrown j1
                        have q3 := cell_regrown cm
                        have cU : ∀ d os, Calls Tryz.prog 47 #[.agg #[.slice (some ⟨bp, po, none⟩) p.length cap], .int .i64 (dN : Int), .int .i64 (An : Int)] (Sort.grow (redrawn wr d) os) fun e w'' => e = .returned (.bool (undB p (dN : Int) (An : Int))) ∧ ∃ p : Regrown, w'' = Sort.grow (redrawn wr p.d) p.os := fun d os => (l5Under Bp p (some ⟨bp, po, none⟩) cap (dN : Int) (An : Int) (by omega) (by omega) h6 HSU.out _ (HPR.out _ (below_over hbWx (below_regrown wr d os))).1).regrown_of
                        clear hd hrdm
                        go_upto_region 25 with fail
                        refine wp_region_quiet_below (by kernel_rfl) (by kernel_rfl) ?_
                        repeat (go_big_quiet_step ((go_at_call 47; exact cU _ _)))
                        refine wpQuiet_nil ?_
                        intro _ hw'
                        obtain ⟨⟨dq, osq⟩, hw''⟩ := hw'
                        subst hw''
                        have hbq := below_regrown wr dq osq
                        have hbx2 : Below wc.heap.size wc (Sort.grow (redrawn wr dq) osq) := below_over hbx hbq
                        have hl52 : Hid (LstB w.heap.size (Sort.grow (redrawn wr dq) osq) (.slice (some ⟨g5, 0, none⟩) L2.length c5) L2) := hl5x.out.on hbq
                        have cm2 := (hbq.cell (p := ⟨g4, b, none⟩) (cell_lt cm)).trans cm
                        clear q0 q1 q3 cU p0 j1 j2 cm hbq hl5x hbx hbWx
                        generalize Sort.grow (redrawn wr dq) osq = V2 at *
                        have hbW2 : Below W.heap.size W V2 := below_over hbW6 hbx2
                        cases hu : undB p (dN : Int) (An : Int)
                        · have HN := hid_of (HBN.out L2 True (hSQ.out.weak fun h => ⟨h, trivial⟩) fun _ h => absurd h (by rw [hu]; simp))
                          clear hu HBN
                          go_wp2
                          go_roundw
                          case rel => exact ⟨b + 1, L2, by go_num, by omega, hkl2, HN.out, hl52.out, hbx2⟩
                          case measure => simp [intOf]; omega
                        · have HU : Hid (undB p (dN : Int) (An : Int) = true) := hu
                          have p0 := (HPR.out _ hbW2).2.1.g0.1
                          obtain ⟨j2, _⟩ := (CI6.out.on hbx2).g2
                          have q0 := cell_regrown p0
                          have q1 := cell_regrown j2
                          have q3 := cell_regrown cm2
                          obtain ⟨t0, ht0⟩ : ∃ t0, t0 = selF p (dN : Int) Bi := ⟨_, rfl⟩
                          have HT0 : Hid (t0 = selF p (dN : Int) Bi) := ht0
                          have cS : ∀ d os, Calls Tryz.prog 46 #[.agg #[.slice (some ⟨bp, po, none⟩) p.length cap], .int .i64 (dN : Int), .int .i64 Bi] (Sort.grow (redrawn V2 d) os) fun e w'' => e = .returned (.int .i64 t0) ∧ ∃ p : Regrown, w'' = Sort.grow (redrawn V2 p.d) p.os := fun d os => by
                            rw [ht0]
                            exact (l5Selected Bp p (some ⟨bp, po, none⟩) cap (dN : Int) Bi (by omega) (by omega) HSP.out h6 HSU.out _ (HPR.out _ (below_over hbW2 (below_regrown V2 d os))).1).regrown_of
                          clear hu ht0
                          go_upto_region 26 with fail
                          refine wp_region_quiet_below (by kernel_rfl) (by kernel_rfl) ?_
                          repeat (go_big_quiet_step ((go_at_call 46; exact cS _ _)))
                          refine wpQuiet_nil ?_
                          intro _ hw'
                          obtain ⟨⟨dq2, osq2⟩, hw''⟩ := hw'
                          subst hw''
                          have hbq := below_regrown V2 dq2 osq2
                          have hbx3 : Below wc.heap.size wc (Sort.grow (redrawn V2 dq2) osq2) := below_over hbx2 hbq
                          have hl53 : Hid (LstB w.heap.size (Sort.grow (redrawn V2 dq2) osq2) (.slice (some ⟨g5, 0, none⟩) L2.length c5) L2) := hl52.out.on hbq
                          clear q0 q1 q3 cS p0 j2 cm2 hbq hl52 hbx2 hbW2
                          generalize Sort.grow (redrawn V2 dq2) osq2 = V3 at *
                          have hbW3 : Below W.heap.size W V3 := below_over hbW6 hbx3
                          by_cases hs : 0 ≤ t0
                          · obtain ⟨sN, rfl⟩ := Int.eq_ofNat_of_zero_le hs
                            have hrs : Hid (Rd p true sN Bi) := .meet hrd'.out HRI.out rfl rfl (by omega) HRM.out HU.out HT0.out.symm
                            have hsl2 : sN < p.length := by
                              obtain ⟨_, _, h1, _⟩ := sel_there HT0.out.symm
                              exact (List.getElem?_eq_some_iff.1 h1).1
                            have hge : (sN : Int) ≥ 0 := hs
                            have HPL := hid_of (hSQ.out.putL hS0.out hrs.out)
                            have HN := hid_of (HBN.out _ _ HPL.out fun h _ _ => by rw [← HT0.out]; exact h)
                            have hlen := putL_ge ((sN : Int) * 20 + Bi) L2
                            obtain ⟨j2, _⟩ := (CI6.out.on hbx3).g2
                            clear HPL HBN
                            go_wp2_with fail
                            refine (l1PutB w.heap.size L2 _ ((sN : Int) * 20 + Bi) (by omega) _ (Nat.le_trans HB0.out hbW3.size) hl53.out).mono ?_
                            rintro e w6 ⟨v', rfl, hlv, hb6⟩
                            have HLV : Hid (LstB w.heap.size w6 v' (putL L2 ((sN : Int) * 20 + Bi))) := hlv
                            have hbx4 : Below wc.heap.size wc w6 := below_over hbx3 hb6
                            clear hlv hb6 j2
                            go_wp2
                            go_roundw
                            case rel => exact ⟨b + 1, _, by go_num, by omega, by omega, HN.out, HLV.out, hbx4⟩
                            case measure => simp [intOf]; omega
                          · have hge : ¬ t0 ≥ 0 := hs
                            have HN := hid_of (HBN.out L2 True (hSQ.out.weak fun h => ⟨h, trivial⟩) fun _ _ h => absurd h (by rw [← HT0.out]; exact hs))
                            clear HBN
                            go_wp2
                            go_roundw
                            case rel => exact ⟨b + 1, L2, by go_num, by omega, hkl2, HN.out, hl53.out, hbx3⟩
                            case measure => simp [intOf]; omega
                      · obtain rfl : b = M.length := by omega
                        have hbi : ¬ ((M.length : Nat) : Int) < ((M.length : Nat) : Int) := by omega
                        have HN := hid_of (HEND.out L2 hSQ.out)
                        have hl4x : Hid (LstB w.heap.size wr (.slice (some ⟨g4, 0, none⟩) M.length c4) M) := hl46.out.on hbx
                        have hb17 : Below w1.heap.size w1 wr := below_over hb16 hbx
                        clear hlt hSQ HEND
                        go_wp2
                        go_roundw
                        case rel => exact ⟨j + 1, M, L2, by go_num, by omega, hkl2, HN.out, hl4x.out, hl5x.out, hb17⟩
                        case measure => simp [intOf]; omega
                · have hb14 : (op == 14) = false := by simpa using h14
                  have hb17 : (op == 17) = false := by simpa using h17
                  have HN := hid_of (HNJ.out ⟨HSW.out.snd, HSW.out.subM, HSW.out.subL, HSW.out.leM, HSW.out.leL, fun _ _ => stp_other h14 h17⟩)
                  clear HNJ HSW
                  go_wp2
                  go_roundw
                  case rel => exact ⟨j + 1, M, L, by go_num, by omega, hkl, HN.out, hl4V.out, hl5V.out, hb1V⟩
                  case measure => simp [intOf]; omega
          · obtain rfl : j = rs.length := by omega
            have hji : ¬ ((rs.length : Nat) : Int) < ((rs.length : Nat) : Int) := by omega
            have HSN := hid_of (HNX.out hSW.out)
            clear hSW hlt
            go_wp2
            go_roundw
            case rel => exact ⟨k + 1, M, L, by go_num, by omega, HSN.out, hl4.out, hl5.out, hbW⟩
            case measure => simp [intOf]; omega
      · obtain rfl : k = L.length := by omega
        have hki : ¬ ((L.length : Nat) : Int) < ((L.length : Nat) : Int) := by omega
        by_cases hsame : M.length + L.length = M0.length + L0.length
        · have HE : Hid (M = risL (madB p) 6 ∧ L = risL (livB p) 120) := by
            have h3 := hSW.out.same hS0.out hsame
            refine Swe.ends HOK.out hS0.out (hSW.out.weak fun h => ?_) hsame
            rw [← h3.2.1]
            rw [← h3.2.1] at h
            exact h
          have hsb : ((M.length : Int) + (L.length : Int) == (M0.length : Int) + (L0.length : Int)) = true := by simp; omega
          clear hSW hS0
          go_wp2
          refine bodyPost_ret (v := .tuple #[.slice (some ⟨g4, 0, none⟩) M.length c4, .slice (some ⟨g5, 0, none⟩) L.length c5]) (by simp [results, Tryz.results25, go_sem]) rfl ?_
          exact ⟨_, _, rfl, by rw [← HE.out.1]; exact hl4.out, by rw [← HE.out.2]; exact hl5.out, (HPR.out _ hb).2.2⟩
        · have hsb : ((M.length : Int) + (L.length : Int) == (M0.length : Int) + (L0.length : Int)) = false := by simp; omega
          have hle1 := hSW.out.leM
          have hle2 := hSW.out.leL
          have HSN : Hid (SndR p M L) := hSW.out.snd
          clear hSW hS0
          go_wp2
          go_roundw
          case rel => exact ⟨M, L, HSN.out, hl4.out, hl5.out, rfl, rfl, hb⟩
          case measure => simp [lenV]; omega
end Pg
end Go.Proofs.YtinanjjhkddikaaGreat
