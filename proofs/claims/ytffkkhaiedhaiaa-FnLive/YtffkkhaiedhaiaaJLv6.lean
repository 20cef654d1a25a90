/- Contracts: what the law of liveness wants beside the machine. -/
import Derived.Test.YtffkkhaiedhaiaaJCur1
import Derived.Test.YtffkkhaiedhaiaaJPk0
import Derived.Test.YtffkkhaiedhaiaaJRn1
import Derived.Test.YtffkkhaiedhaiaaJWp1
import Derived.Test.YtffkkhaiedhaiaaJLv5
import Derived.BigQuiet
namespace Go.Proofs.Ytffkkhaiedhaiaa
namespace Pg
open Go.ChangeShapes Go.WideShapes Go.ChangeAt Go.RowKit St Wd

set_option maxHeartbeats 800000 in
theorem drawLive_at (B : Nat) (w : World) (a : Option Addr) (len cap : Nat) (hB : Cu.Bytes B w a len) (hs : B ≤ w.heap.size) :
    Calls Try.prog 25 #[.slice a len cap] w fun e w' => ∃ g cl l, e = .returned (.slice (some ⟨g, 0, none⟩) l.length cl) ∧ Row w' g 0 l ∧ Room w' g (l.length * 3) ∧ g < w'.heap.size ∧ l.length ≤ 41 ∧ Below w.heap.size w w' := by
  have HB : Hid (Cu.Bytes B w a len) := hB
  clear hB
  go_enter Try.func25, Try.ntmps25
  go_wp2_with fail
  refine (drawCodeW_at B _ a len cap HB.out hs).mono ?_
  rintro e w1 ⟨g, cl, l, rfl, hr, hm, hg, hl, hb⟩
  have HR : Hid (Row w1 g 0 l) := hr
  have HM : Hid (Room w1 g (l.length * 3)) := hm
  clear hr hm
  go_wp2
  go_ret
  exact ⟨g, cl, l, rfl, HR.out, HM.out, hg, hl, hb⟩
theorem hid_of {p : Prop} (h : p) : Hid p := h
theorem livA_full {l : List Tx.Ins} (h : Lay.codeOk l = true) : (livA l).length = l.length := by unfold livA; rw [h, if_pos rfl, livL_len]
theorem livA_at {l : List Tx.Ins} (h : Lay.codeOk l = true) {k : Nat} (hk : k < l.length) : (livA l)[k]? = some ((bn (lvB l k) 8 : Nat) : Int) := by unfold livA; rw [h, if_pos rfl, livL_at hk]
theorem bn_shift {P : Nat → Bool} {v : Nat} (hv : v < 8) : bn P 8 / 2 ^ v % 2 = if P v then 1 else 0 := by
  have h := bn_test P v 8
  rw [Nat.testBit_eq_decide_div_mod_eq] at h
  have h2 : bn P 8 / 2 ^ v % 2 < 2 := Nat.mod_lt _ (by decide)
  cases hp : P v
  · rw [hp] at h
    simp [hv] at h
    simp
    omega
  · rw [hp] at h
    simp [hv] at h
    simp [h]
theorem bn_even {P : Nat → Bool} {v : Nat} (hv : v < 8) : ((((bn P 8 : Nat) : Int) / 2 ^ v).tmod 2 == 0) = !(P v) := by
  have e : (((bn P 8 : Nat) : Int) / 2 ^ v).tmod 2 = ((bn P 8 / 2 ^ v % 2 : Nat) : Int) := by
    rw [show ((2 : Int) ^ v) = ((2 ^ v : Nat) : Int) by simp, ← Int.natCast_ediv]
    exact (Int.ofNat_tmod _ 2).symm
  rw [e, bn_shift hv]
  cases P v <;> rfl
theorem MSt.late {B0 B : Nat} {u X : World} {vh vf vs : Value} {m : Mc} {ch cf : List (List Value)} {Th Tf : Nat → Nat → Nat → Prop} (hown : MOwn B u vh vf vs m ch cf Th Tf) (hB : B0 ≤ B) (hu : B0 ≤ u.heap.size) (hX : X = u.alloc (.cells #[vh, vf, vs, .int .i64 m.fin, .int .i64 m.code] 44)) : MSt B0 u.heap.size X m := by
  have hb : Below u.heap.size u X := by rw [hX]; exact (Below.refl _ _).alloc (Nat.le_refl _) _
  exact ⟨vh, vf, vs, ch, cf, Th, Tf, by rw [hX]; exact Cells.new u _ rfl _ _, hu, (hown.on hb).base hB, fun k hk => by have := hown.lt k hk; omega⟩
theorem MSt.early {B0 B M : Nat} {u X : World} {vh vf vs a b c d e : Value} {m : Mc} {ch cf : List (List Value)} {Th Tf : Nat → Nat → Nat → Prop} (hown : MOwn B u vh vf vs m ch cf Th Tf) (hB : B0 ≤ B) (hM : B0 ≤ M) (hMB : M < B) (hc : Cells u M [a, b, c, d, e])
    (hX : X = ((((u.setCell ⟨M, 0, none⟩ vh).setCell ⟨M, 1, none⟩ vf).setCell ⟨M, 2, none⟩ vs).setCell ⟨M, 3, none⟩ (.int .i64 m.fin)).setCell ⟨M, 4, none⟩ (.int .i64 m.code)) : MSt B0 M X m := by
  subst hX
  refine ⟨vh, vf, vs, ch, cf, Th, Tf, five_cells hc _ _ _ _ _, hM, (hown.moved (by simp) fun k hk => ?_).base hB, fun k hk => by have := hown.low k hk; omega⟩
  have hl := hown.low k hk
  have hne : M ≠ k := by omega
  rw [set_blocks _ _ _ _ hne, set_blocks _ _ _ _ hne, set_blocks _ _ _ _ hne, set_blocks _ _ _ _ hne, set_blocks _ _ _ _ hne]
theorem MSt.base {B B' M : Nat} {w : World} {m : Mc} (h : MSt B M w m) (hB : B' ≤ B) : MSt B' M w m := by
  obtain ⟨vh, vf, vs, ch, cf, Th, Tf, h1, h2, h3, h4⟩ := h
  exact ⟨vh, vf, vs, ch, cf, Th, Tf, h1, Nat.le_trans hB h2, h3.base hB, h4⟩
theorem cells_five {w : World} {M c : Nat} {l : List Value} (h : Cells w M l) (hne : M ≠ c) (v0 v1 v2 v3 v4 : Value) : Cells (((((w.setCell ⟨c, 0, none⟩ v0).setCell ⟨c, 1, none⟩ v1).setCell ⟨c, 2, none⟩ v2).setCell ⟨c, 3, none⟩ v3).setCell ⟨c, 4, none⟩ v4) M l :=
  ((((h.far ⟨c, 0, none⟩ v0 hne.symm).far ⟨c, 1, none⟩ v1 hne.symm).far ⟨c, 2, none⟩ v2 hne.symm).far ⟨c, 3, none⟩ v3 hne.symm).far ⟨c, 4, none⟩ v4 hne.symm
theorem MSt.five {B M c : Nat} {w : World} {m : Mc} (h : MSt B M w m) (hc : c < B) (v0 v1 v2 v3 v4 : Value) : MSt B M (((((w.setCell ⟨c, 0, none⟩ v0).setCell ⟨c, 1, none⟩ v1).setCell ⟨c, 2, none⟩ v2).setCell ⟨c, 3, none⟩ v3).setCell ⟨c, 4, none⟩ v4) m := by
  obtain ⟨vh, vf, vs, ch, cf, Th, Tf, h1, h2, h3, h4⟩ := h
  refine ⟨vh, vf, vs, ch, cf, Th, Tf, cells_five h1 (by omega) _ _ _ _ _, h2, h3.moved (by simp) fun k hk => ?_, h4⟩
  have hl := h3.low k hk
  have hne : c ≠ k := by omega
  rw [set_blocks _ _ _ _ hne, set_blocks _ _ _ _ hne, set_blocks _ _ _ _ hne, set_blocks _ _ _ _ hne, set_blocks _ _ _ _ hne]
theorem MSt.two {B0 B M c : Nat} {w : World} {vh vf vs : Value} {m : Mc} {ch cf : List (List Value)} {Th Tf : Nat → Nat → Nat → Prop} (hC : Cells w M [vh, vf, vs, .int .i64 m.fin, .int .i64 m.code]) (hO : MOwn B w vh vf vs m ch cf Th Tf) (hB : B0 ≤ B) (hM : B0 ≤ M) (hMB : M < B) (hcB : c < B) (hcM : M ≠ c) (v0 v1 v2 v3 v4 : Value) :
    MSt B0 M (((((w.setCell ⟨c, 0, none⟩ v0).setCell ⟨c, 1, none⟩ v1).setCell ⟨c, 2, none⟩ v2).setCell ⟨c, 3, none⟩ v3).setCell ⟨c, 4, none⟩ v4) m := by
  refine ⟨vh, vf, vs, ch, cf, Th, Tf, cells_five hC hcM _ _ _ _ _, hM, (hO.moved (by simp) fun k hk => ?_).base hB, fun k hk => by have := hO.low k hk; omega⟩
  have hl := hO.low k hk
  have hne : c ≠ k := by omega
  rw [set_blocks _ _ _ _ hne, set_blocks _ _ _ _ hne, set_blocks _ _ _ _ hne, set_blocks _ _ _ _ hne, set_blocks _ _ _ _ hne]
set_option maxHeartbeats 1000000 in
theorem likeSI {f f' : Bool} (B B' : Nat) (a a' : Option Addr) (cap cap' : Nat) (l : List Int) (hl : l.length ≤ 1048576) (w : World) (h1 : SI f B w (.slice a l.length cap) l) (h2 : SI f' B' w (.slice a' l.length cap') l) :
    Calls Try.prog 14 #[.slice a l.length cap, .slice a' l.length cap'] w fun e w' => e = .returned (.bool true) ∧ Below w.heap.size w w' := by
  rcases Nat.eq_zero_or_pos l.length with h0 | h0
  · rw [h0]
    clear h1 h2
    go_enter Try.func14, Try.ntmps14
    go_wp2
    go_loopw [5] (fun i wr => i = .int .i64 0 ∧ wr = w) (fun i _ => 0)
    case atStart => exact ⟨rfl, rfl⟩
    case round =>
      obtain ⟨rfl, rfl⟩ := hrel
      go_wp2
      go_ret
      exact ⟨rfl, Below.refl _ _⟩
  · obtain ⟨b, o, rfl, i1⟩ := h1.rows h0
    obtain ⟨b', o', rfl, i2⟩ := h2.rows h0
    have H1 : Hid (IRow w b o l) := i1
    have H2 : Hid (IRow w b' o' l) := i2
    clear h1 h2 h0 i1 i2
    go_enter Try.func14, Try.ntmps14
    go_wp2
    go_loopw [5] (fun i wr => ∃ k : Nat, k ≤ l.length ∧ i = .int .i64 k ∧ Below w.heap.size w wr) (fun i _ => l.length - (intOf i).toNat)
    case atStart => exact ⟨0, Nat.zero_le _, rfl, Below.refl _ _⟩
    case round =>
      obtain ⟨k, hk, rfl, hb⟩ := hrel
      by_cases hlt : k < l.length
      · have a0 := H1.out.on hb k _ (List.getElem?_eq_getElem hlt)
        have b0 := H2.out.on hb k _ (List.getElem?_eq_getElem hlt)
        generalize l[k] = x at *
        have hki : (k : Int) < (l.length : Int) := by omega
        have hki0 : (0 : Int) ≤ (k : Int) := by omega
        have r0 := cell_regrown a0
        have s0 := cell_regrown b0
        go_wp2_with fail
        refine wp_region_quiet_below (by kernel_rfl) (by kernel_rfl) ?_
        repeat (quiet_step (fail))
        refine wpQuiet_nil ?_
        intro _ hw'
        obtain ⟨⟨dq, osq⟩, hw''⟩ := hw'
        subst hw''
        have hw1 : Below w.heap.size w (Sort.grow (redrawn wr dq) osq) := below_over hb (below_regrown wr dq osq)
        clear a0 b0 r0 s0 hb
        generalize Sort.grow (redrawn wr dq) osq = w1 at *
        go_wp2
        go_roundw
        case rel => exact ⟨k + 1, by omega, by go_num, hw1⟩
        case measure => simp [intOf]; omega
      · go_wp2
        go_ret
        exact ⟨rfl, hb⟩
end Pg
end Go.Proofs.Ytffkkhaiedhaiaa

/- Contracts: the specification's LiveIn. -/
namespace Go.Proofs.Ytffkkhaiedhaiaa
namespace Pg
open Go.ChangeShapes Go.WideShapes Go.ChangeAt Go.RowKit St

def bitsL (L : Lvs) (n : Nat) : List Int := (List.range n).map fun k => ((bn (L k) 8 : Nat) : Int)
theorem bitsL_len (L : Lvs) (n : Nat) : (bitsL L n).length = n := by simp [bitsL]
theorem bitsL_at {L : Lvs} {n k : Nat} (h : k < n) : (bitsL L n)[k]? = some ((bn (L k) 8 : Nat) : Int) := by simp [bitsL, h]
theorem bitsL_set (L : Lvs) (n k : Nat) (r : Nat → Bool) : (bitsL L n).set k ((bn r 8 : Nat) : Int) = bitsL (setL L k r) n := by
  apply List.ext_getElem?
  intro j
  rw [List.getElem?_set]
  by_cases hj : j < n
  · rw [bitsL_at hj, bitsL_at hj, bitsL_len]
    by_cases e : k = j
    · subst e
      have h1 : setL L k r k = r := by funext v; simp [setL]
      simp [hj, h1]
    · have h1 : setL L k r j = L j := by funext v; simp [setL, Ne.symm e]
      simp [e, h1]
  · have h1 : (bitsL L n)[j]? = none := List.getElem?_eq_none (by rw [bitsL_len]; omega)
    have h2 : (bitsL (setL L k r) n)[j]? = none := List.getElem?_eq_none (by rw [bitsL_len]; omega)
    rw [h1, h2, bitsL_len]
    by_cases e : k = j
    · subst e; simp [hj]
    · simp [e]
theorem sh_a {a : Nat} (ha : a < 8) : wrap64 (2 ^ a) = ((2 ^ a : Nat) : Int) := by
  have h2 : 2 ^ a < 256 := Nat.lt_of_lt_of_le (Nat.pow_lt_pow_right (by decide) ha) (by decide)
  have h4 : ((2 ^ a : Nat) : Int) = (2 : Int) ^ a := by push_cast; rfl
  rw [← h4]
  exact (show ∀ q : Nat, q < 256 → wrap64 (q : Int) = (q : Int) from fun q hq => by unfold wrap64; omega) _ h2
theorem pow_b (a : Nat) : ((2 ^ a : Nat) : Int) = (2 : Int) ^ a := by push_cast; rfl
theorem sh_b {a : Nat} (ha : a < 8) : wrap64 (2 ^ a) = (2 : Int) ^ a := by rw [sh_a ha, pow_b]
/-- Where the specification stands in a round. -/
structure SpL (code : List Tx.Ins) (B L : Lvs) (k : Nat) (m : Bool) : Prop where
  sw : SwL code B L k
  no : m = false → ∀ j v, j < code.length → v < 8 → L j v = B j v
  yes : m = true → cntS 320 (flatP B) < cntS 320 (flatP L)
theorem SpL.start {code : List Tx.Ins} {L : Lvs} (h : LvI code L) : SpL code L L code.length false := ⟨SwL.start h, fun _ _ _ _ _ => rfl, fun h => by simp at h⟩
theorem SpL.stay {code : List Tx.Ins} {B L : Lvs} {k : Nat} {m : Bool} (h : SpL code B L (k + 1) m) (he : bn (liveF code k L) 8 = bn (L k) 8) : SpL code B L k m :=
  ⟨h.sw.stay fun v hv => (bn_eq.1 he v hv).symm, h.no, h.yes⟩
theorem SpL.turn {code : List Tx.Ins} (h40 : code.length ≤ 40) {B L : Lvs} {k : Nat} {m : Bool} (h : SpL code B L (k + 1) m) (hk : k < code.length) (he : bn (liveF code k L) 8 ≠ bn (L k) 8) : SpL code B (setL L k (liveF code k L)) k true := by
  refine ⟨h.sw.step hk, fun h => by simp at h, fun _ => ?_⟩
  have hle := setL_le h.sw.lv hk
  refine Nat.lt_of_le_of_lt (cnt_mono fun q _ => flat_le h.sw.le q) (cnt_lt (fun q _ => flat_le hle q) ?_)
  cases ha : alike 320 (flatP (setL L k (liveF code k L))) (flatP L)
  · rfl
  · exfalso
    apply he
    refine bn_eq.2 fun v hv => ?_
    have := alike_iff.1 ha (k * 8 + v) (by omega)
    rw [flat_at _ _ _ hv, flat_at _ _ _ hv] at this
    simpa [setL] using this
theorem live_is (code : List Tx.Ins) (k : Nat) (M : Lvs) {op A b : Int} (hi : insF code k = (op, A, b)) (a : Nat) (hA : op = 2 ∨ op = 3 → A = (a : Int)) :
    bn (liveF code k M) 8 = if op = 2 then bn (fun v => outF code k M v || decide (v = a)) 8 else if op = 3 then bn (fun v => outF code k M v && !decide (v = a)) 8 else bn (outF code k M) 8 := by
  have hl : ∀ v, liveF code k M v = inF (op, A, b) v (outF code k M v) := fun v => by unfold liveF; rw [hi]
  by_cases h2 : op = 2
  · rw [if_pos h2]
    refine bn_eq.2 fun v _ => ?_
    rw [hl, hA (.inl h2)]
    unfold inF
    dsimp only
    by_cases e : v = a
    · subst e; simp [h2]
    · have e' : ¬ ((a : Int) = (v : Int)) := by omega
      simp [h2, e, e']
  · rw [if_neg h2]
    by_cases h3 : op = 3
    · rw [if_pos h3]
      refine bn_eq.2 fun v _ => ?_
      rw [hl, hA (.inr h3)]
      unfold inF
      dsimp only
      by_cases e : v = a
      · subst e; simp [h3]
      · have e' : ¬ ((a : Int) = (v : Int)) := by omega
        simp [h3, e, e']
    · rw [if_neg h3]
      refine bn_eq.2 fun v _ => ?_
      rw [hl]
      simp [inF, h2, h3]

set_option maxRecDepth 100000 in
set_option maxHeartbeats 4000000 in
theorem l9Live_at (g yc : Nat) (code : List Tx.Ins) (hok : Lay.codeOk code = true) (w : World) (hrow : Row w g 0 code) :
    Calls Try.prog 59 #[.slice (some ⟨g, 0, none⟩) code.length yc] w fun e w' => ∃ v, e = .returned v ∧ Lst w' v (livL code) ∧ Below w.heap.size w w' := by
  obtain ⟨i0, hif, hz0, hz1, hz2⟩ := info_parts infoN
  have hl40 := (Lay.ok_len hok).2
  have lg : g < w.heap.size := cell_lt (hrow 0 _ (ins_is (Lay.ok_len hok).1)).1
  have HR : Hid (Row w g 0 code) := hrow
  have HOK : Hid (Lay.codeOk code = true) := hok
  clear hrow hok
  go_enter Try.func59, Try.ntmps59
  go_wp2_with (at_make; refine wpList_make_full _ rfl _ _ 27 rfl w.heap.size 2 i0 (.int .i64 0) 1 Try.underlying27 hif hz0 hz1 .i64 .i64 _ _ code.length rfl rfl rfl rfl (by rw [hz2]; omega) (by unfold maxLen; omega) (Nat.le_refl _) ?_; intro w0 hown0 hgrow0)
  have hroom := room_own hown0 (Nat.le_refl _)
  rw [Nat.mul_one] at hroom
  have hsz0 : w.heap.size < w0.heap.size := made_lt hown0
  have hb0 : Below w.heap.size w w0 := (Below.refl _ _).grown hgrow0 (Nat.le_refl _) (fun _ h => by simp at h)
  have HI0 : Hid (IRow w0 w.heap.size 0 (bitsL (fun _ _ => false) code.length)) := by
    show IRow _ _ _ _
    have e : bitsL (fun _ _ => false) code.length = List.replicate code.length 0 := by
      unfold bitsL
      rw [List.eq_replicate_iff]
      refine ⟨by simp, fun x hx => ?_⟩
      obtain ⟨k, _, rfl⟩ := List.mem_map.1 hx
      rw [bn_none]; rfl
    rw [e]
    exact irow_made hown0
  clear hown0 hgrow0
  go_loopg [] 320 (fun n wr => ∃ L : Lvs, Hid (320 ≤ cntS 320 (flatP L) + n) ∧ Hid (LvI code L) ∧ Hid (Room wr w.heap.size code.length) ∧ Hid (IRow wr w.heap.size 0 (bitsL L code.length)) ∧ w.heap.size < wr.heap.size ∧ Below w.heap.size w wr)
  case atStart => exact ⟨fun _ _ => false, Nat.le_add_left _ _, ⟨fun k v _ _ h => by simp at h, fun G _ k v _ _ h => by simp at h⟩, hroom, HI0.out, hsz0, hb0⟩
  case round =>
    clear hroom HI0 hsz0 hb0
    obtain ⟨L, hn, hlv, hrm, hrw, hsz, hb⟩ := hrel
    have hlen : wrap64 ((code.length : Int) - 1) = (code.length : Int) - 1 := by unfold wrap64; omega
    go_wp2_with fail
    go_loopw [4, 5] (fun mv v wr => ∃ (k : Nat) (m : Bool) (M : Lvs), k ≤ code.length ∧ v = .int .i64 ((k : Int) - 1) ∧ mv = .bool m ∧ Hid (SpL code L M k m) ∧ Hid (Room wr w.heap.size code.length) ∧ Hid (IRow wr w.heap.size 0 (bitsL M code.length)) ∧ w.heap.size < wr.heap.size ∧ Below w.heap.size w wr) (fun _ v _ => (intOf v + 1).toNat)
    case atStart => exact ⟨code.length, false, L, Nat.le_refl _, by first | rfl | rw [hlen], rfl, SpL.start hlv.out, hrm.out, hrw.out, hsz, hb⟩
    case round =>
      clear hrm hrw hsz hb hlen
      obtain ⟨k', m, M, hk, rfl, rfl, hsp, hrm, hrw, hsz, hb⟩ := hrel
      cases k' with
      | zero =>
        cases m
        · have HFX : Hid (bitsL M code.length = livL code) := by
            show _ = _
            unfold bitsL livL
            refine List.map_congr_left fun k hk => ?_
            rw [bn_eq.2 fun v hv => live_end hsp.out.sw.lv (hsp.out.sw.fix (hsp.out.no rfl)) (List.mem_range.1 hk) hv]
          have HLS : Hid (Lst wr (.slice (some ⟨w.heap.size, 0, none⟩) code.length code.length) (livL code)) := ⟨w.heap.size, code.length, by rw [livL_len], by rw [livL_len]; exact Nat.le_refl _, hsz, by rw [← HFX.out]; exact hrw.out⟩
          clear hsp hrm hrw
          go_wp2
          go_ret
          exact ⟨_, rfl, HLS.out, hb⟩
        · have HLT : Hid (cntS 320 (flatP L) < cntS 320 (flatP M) ∧ cntS 320 (flatP M) ≤ 320) := ⟨hsp.out.yes rfl, cnt_le _ _⟩
          have HLV : Hid (LvI code M) := hsp.out.sw.lv
          clear hsp
          go_wp2
          go_roundg (gk - 1)
          case measure => have := HLT.out; have := hn.out; omega
          case rel => exact ⟨M, by show _ ≤ _; have := HLT.out; have := hn.out; omega, HLV.out, hrm.out, hrw.out, hsz, hb⟩
      | succ k =>
        have hkl : k < code.length := by omega
        have hki : (k : Int) < (code.length : Int) := by omega
        have em : ((k + 1 : Nat) : Int) - 1 = (k : Int) := by omega
        have hge : decide ((k : Int) ≥ 0) = true := by simp
        have hwk : wrap64 ((k : Int) - 1) = (k : Int) - 1 := by unfold wrap64; omega
        rw [em]
        go_wp2_with fail
        refine (l9Nexts_at g yc code (by omega) k hkl wr (HR.out.on hb)).mono ?_
        rintro e w2 ⟨v2, rfl, hls2, hb2⟩
        obtain ⟨gn, cn, rfl, hcn, hgn, hrn⟩ := hls2
        have HRN : Hid (IRow w2 gn 0 (nextsF code k)) := hrn
        have hw2 : Below w.heap.size w w2 := below_over hb hb2
        have RM2 : Hid (Room w2 w.heap.size code.length) := hrm.out.on hb2
        have RW2 : Hid (IRow w2 w.heap.size 0 (bitsL M code.length)) := hrw.out.on hb2
        have hsz2 : w.heap.size < w2.heap.size := Nat.lt_of_lt_of_le hsz hb2.size
        have HNX : Hid (∀ x ∈ nextsF code k, ∃ j : Nat, j < code.length ∧ x = (j : Int)) := fun x hx => by
          obtain ⟨j, hj, e⟩ := (nextsF_mem HOK.out hkl x).1 hx
          exact ⟨j, nxB_lt hj, e⟩
        have HOUT : Hid (∀ v, (nextsF code k).any (fun x => M x.toNat v) = outF code k M v) := fun v => by rw [nexts_ris HOK.out hkl]; exact ris_any _ M v
        have hn40 : (nextsF code k).length ≤ 41 := by rw [nexts_ris HOK.out hkl]; have := risL_len (nxB code k) 40; omega
        clear hb2 hrn hb hrm hrw hsz em
        generalize nextsF code k = ns at *
        go_wp2_with fail
        go_loopw [6, 8] (fun bv i wq => ∃ q : Nat, q ≤ ns.length ∧ i = .int .i64 q ∧ bv = .int .i64 ((bn (partL M ns q) 8 : Nat) : Int) ∧ wq = w2) (fun _ i _ => ns.length - (intOf i).toNat)
        case atStart => exact ⟨0, Nat.zero_le _, rfl, by rw [show bn (partL M ns 0) 8 = 0 from bn_none]; rfl, rfl⟩
        case round =>
          obtain ⟨q, hq, rfl, rfl, rfl⟩ := hrel
          by_cases hqt : q < ns.length
          · have hqi : (q : Int) < (ns.length : Int) := by omega
            have c0 := HRN.out q _ (List.getElem?_eq_getElem hqt)
            rw [Nat.zero_add] at c0
            obtain ⟨j, hj, hxj⟩ := HNX.out _ (List.getElem_mem hqt)
            have HPN : Hid (bn (fun v => partL M ns q v || M j v) 8 = bn (partL M ns (q + 1)) 8) := bn_eq.2 fun v _ => by
              have := partL_succ M hqt v
              rw [hxj, Int.toNat_natCast] at this
              exact this
            rw [hxj] at c0
            have d0 := RW2.out j _ (bitsL_at hj)
            rw [Nat.zero_add] at d0
            have hji : (j : Int) < (code.length : Int) := by omega
            have hor := or_bn (partL M ns q) (M j)
            rw [HPN.out] at hor
            clear hxj
            go_wp2
            go_roundw
            case rel => exact ⟨q + 1, by omega, by go_num, rfl, by simp⟩
            case measure => simp [intOf]; omega
          · have hqi : ¬ (q : Int) < (ns.length : Int) := by omega
            have HBB : Hid (bn (partL M ns q) 8 = bn (outF code k M) 8) := bn_eq.2 fun v _ => by
              rw [← HOUT.out v]
              unfold partL
              rw [List.take_of_length_le (by omega)]
            rw [HBB.out]
            obtain ⟨d0, d1, d2⟩ := (HR.out.on hw2) k _ (ins_is hkl)
            have e0 := RW2.out k _ (bitsL_at hkl)
            have f0 := (RM2.out k hkl).2
            simp only [Nat.zero_add] at d0 d1 d2 e0
            have HLI := fun h => local_in HOK.out hkl h
            have HIS := fun {op A b : Int} (hi : insF code k = (op, A, b)) => live_is code k M hi
            generalize insF code k = ins at *
            obtain ⟨op, A, b⟩ := ins
            dsimp only at d0 d1 d2 HLI
            have HIS2 := HIS rfl
            clear HIS
            by_cases h3 : op = 3
            · subst h3
              obtain ⟨ha0, ha8⟩ := HLI (.inr rfl)
              obtain ⟨a, rfl⟩ := Int.eq_ofNat_of_zero_le ha0
              have ha : a < 8 := by omega
              have HLV : Hid (bn (liveF code k M) 8 = bn (fun v => outF code k M v && !decide (v = a)) 8) := by show _ = _; rw [HIS2 a (fun _ => rfl)]; simp
              have hnb := not_bit (outF code k M) a ha
              rw [pow_b] at hnb
              have hsh := sh_b ha
              clear HLI ha0 HIS2
              by_cases hx : (bn (fun v => outF code k M v && !decide (v = a)) 8) = bn (M k) 8
              · have hne : ((((bn (fun v => outF code k M v && !decide (v = a)) 8) : Nat) : Int) != ((bn (M k) 8 : Nat) : Int)) = false := by rw [hx]; simp
                have HSP : Hid (SpL code L M k m) := hsp.out.stay (HLV.out.trans hx)
                clear hx HLV hsp HBB
                go_wp2
                go_roundw
                case rel => exact ⟨k, m, M, by omega, by first | rfl | rw [hwk], rfl, HSP.out, RM2.out, RW2.out, hsz2, hw2⟩
                case measure => simp [intOf]
              · have hne : ((((bn (fun v => outF code k M v && !decide (v = a)) 8) : Nat) : Int) != ((bn (M k) 8 : Nat) : Int)) = true := by
                  simp only [bne_iff_ne, ne_eq]
                  intro e
                  exact hx (by omega)
                have HSP : Hid (SpL code L (setL M k (liveF code k M)) k true) := hsp.out.turn hl40 hkl (fun e => hx (HLV.out.symm.trans e))
                have HNI : Hid (IRow (wr.setCell ⟨w.heap.size, k, none⟩ (.int .i64 (((bn (fun v => outF code k M v && !decide (v = a)) 8) : Nat) : Int))) w.heap.size 0 (bitsL (setL M k (liveF code k M)) code.length)) := by
                  show IRow _ _ _ _
                  rw [← bitsL_set, HLV.out]
                  exact irow_set _ RW2.out
                clear hx HLV hsp HBB
                go_wp2
                go_roundw
                case rel => exact ⟨k, true, _, by omega, by first | rfl | rw [hwk], rfl, HSP.out, RM2.out.set _ _, HNI.out, by simpa using hsz2, hw2.setCell (Nat.le_refl _) _⟩
                case measure => simp [intOf]
            · have h3b : (op == 3) = false := by simp [h3]
              by_cases h2 : op = 2
              · subst h2
                obtain ⟨ha0, ha8⟩ := HLI (.inl rfl)
                obtain ⟨a, rfl⟩ := Int.eq_ofNat_of_zero_le ha0
                have ha : a < 8 := by omega
                have HLV : Hid (bn (liveF code k M) 8 = bn (fun v => outF code k M v || decide (v = a)) 8) := by show _ = _; rw [HIS2 a (fun _ => rfl)]; simp
                have hnb := or_bit (outF code k M) a ha
                rw [pow_b] at hnb
                have hsh := sh_b ha
                clear HLI ha0 HIS2 h3 h3b
                by_cases hx : (bn (fun v => outF code k M v || decide (v = a)) 8) = bn (M k) 8
                · have hne : ((((bn (fun v => outF code k M v || decide (v = a)) 8) : Nat) : Int) != ((bn (M k) 8 : Nat) : Int)) = false := by rw [hx]; simp
                  have HSP : Hid (SpL code L M k m) := hsp.out.stay (HLV.out.trans hx)
                  clear hx HLV hsp HBB
                  go_wp2
                  go_roundw
                  case rel => exact ⟨k, m, M, by omega, by first | rfl | rw [hwk], rfl, HSP.out, RM2.out, RW2.out, hsz2, hw2⟩
                  case measure => simp [intOf]
                · have hne : ((((bn (fun v => outF code k M v || decide (v = a)) 8) : Nat) : Int) != ((bn (M k) 8 : Nat) : Int)) = true := by
                    simp only [bne_iff_ne, ne_eq]
                    intro e
                    exact hx (by omega)
                  have HSP : Hid (SpL code L (setL M k (liveF code k M)) k true) := hsp.out.turn hl40 hkl (fun e => hx (HLV.out.symm.trans e))
                  have HNI : Hid (IRow (wr.setCell ⟨w.heap.size, k, none⟩ (.int .i64 (((bn (fun v => outF code k M v || decide (v = a)) 8) : Nat) : Int))) w.heap.size 0 (bitsL (setL M k (liveF code k M)) code.length)) := by
                    show IRow _ _ _ _
                    rw [← bitsL_set, HLV.out]
                    exact irow_set _ RW2.out
                  clear hx HLV hsp HBB
                  go_wp2
                  go_roundw
                  case rel => exact ⟨k, true, _, by omega, by first | rfl | rw [hwk], rfl, HSP.out, RM2.out.set _ _, HNI.out, by simpa using hsz2, hw2.setCell (Nat.le_refl _) _⟩
                  case measure => simp [intOf]
              · have h2b : (op == 2) = false := by simp [h2]
                have HLV : Hid (bn (liveF code k M) 8 = bn (outF code k M) 8) := by show _ = _; rw [HIS2 0 (fun h => by rcases h with h | h; exact absurd h h2; exact absurd h h3), if_neg h2, if_neg h3]
                clear HLI HIS2 h2 h3
                by_cases hx : (bn (outF code k M) 8) = bn (M k) 8
                · have hne : ((((bn (outF code k M) 8) : Nat) : Int) != ((bn (M k) 8 : Nat) : Int)) = false := by rw [hx]; simp
                  have HSP : Hid (SpL code L M k m) := hsp.out.stay (HLV.out.trans hx)
                  clear hx HLV hsp HBB
                  go_wp2
                  go_roundw
                  case rel => exact ⟨k, m, M, by omega, by first | rfl | rw [hwk], rfl, HSP.out, RM2.out, RW2.out, hsz2, hw2⟩
                  case measure => simp [intOf]
                · have hne : ((((bn (outF code k M) 8) : Nat) : Int) != ((bn (M k) 8 : Nat) : Int)) = true := by
                    simp only [bne_iff_ne, ne_eq]
                    intro e
                    exact hx (by omega)
                  have HSP : Hid (SpL code L (setL M k (liveF code k M)) k true) := hsp.out.turn hl40 hkl (fun e => hx (HLV.out.symm.trans e))
                  have HNI : Hid (IRow (wr.setCell ⟨w.heap.size, k, none⟩ (.int .i64 (((bn (outF code k M) 8) : Nat) : Int))) w.heap.size 0 (bitsL (setL M k (liveF code k M)) code.length)) := by
                    show IRow _ _ _ _
                    rw [← bitsL_set, HLV.out]
                    exact irow_set _ RW2.out
                  clear hx HLV hsp HBB
                  go_wp2
                  go_roundw
                  case rel => exact ⟨k, true, _, by omega, by first | rfl | rw [hwk], rfl, HSP.out, RM2.out.set _ _, HNI.out, by simpa using hsz2, hw2.setCell (Nat.le_refl _) _⟩
                  case measure => simp [intOf]
set_option maxRecDepth 100000 in
set_option maxHeartbeats 1000000 in
theorem specLiveIn (g cap : Nat) (l : List Tx.Ins) (hl : l.length ≤ 1048576) (w : World) (hr : Row w g 0 l) :
    Calls Try.prog 27 #[.slice (some ⟨g, 0, none⟩) l.length cap] w fun e w' => ∃ x, e = .returned x ∧ Lst w' x (livA l) ∧ Below w.heap.size w w' := by
  have HR : Hid (Row w g 0 l) := hr
  clear hr
  go_enter Try.func27, Try.ntmps27
  go_wp2_with fail
  refine (specCodeOk g cap l hl w HR.out).mono ?_
  rintro e w1 ⟨rfl, hb1⟩
  cases hok : Lay.codeOk l
  · have HE : Hid (livA l = []) := by show _ = _; simp [livA, hok]
    clear hok
    go_wp2
    go_ret
    exact ⟨_, rfl, by rw [HE.out]; exact (grow_start w1).lst, hb1.alloc hb1.size _⟩
  · have HE : Hid (livA l = livL l) := by show _ = _; simp [livA, hok]
    go_wp2_with fail
    refine (l9Live_at g cap l hok w1 (HR.out.on hb1)).mono ?_
    rintro e w2 ⟨v, rfl, hls, hb2⟩
    have hw2 : Below w.heap.size w w2 := below_over hb1 hb2
    have HL : Hid (Lst w2 v (livL l)) := hls
    clear hb1 hb2 hls hok
    go_wp2
    go_ret
    exact ⟨_, rfl, by rw [HE.out]; exact HL.out, hw2⟩
end Pg
end Go.Proofs.Ytffkkhaiedhaiaa
