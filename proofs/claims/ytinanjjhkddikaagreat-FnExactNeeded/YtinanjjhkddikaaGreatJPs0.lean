/- The contract of the program's own account of which programs are right. -/
import Derived.Test.YtinanjjhkddikaaGreatJPi2
import Derived.Test.YtinanjjhkddikaaGreatJLo0
import Derived.Test.YtinanjjhkddikaaGreatJSf9
namespace Go.Proofs.YtinanjjhkddikaaGreat
namespace Pg
open Go.ChangeShapes Go.WideShapes Go.ChangeAt Go.RowKit St

theorem mainOk_of {p : Prg} {c : Cls} (h : p[0]? = some c) : (ownF c 0 = none → mainOk p = false) ∧ ∀ m, ownF c 0 = some m → mainOk p = (decide (m.args.length = 0) && decide (m.gives = -1)) := by
  unfold mainOk
  rw [h]
  refine ⟨fun h => ?_, fun m h => ?_⟩
  · simp [h]
  · simp [h]
set_option maxRecDepth 100000 in
set_option maxHeartbeats 2000000 in
theorem implProgramOk (B : Nat) (p : Prg) (a : Option Addr) (cap : Nat) (hsp : SmallP p) (w : World) (hp : SK front B w (.slice a p.length cap) p) :
    Calls Tryz.prog 30 #[.agg #[.slice a p.length cap]] w fun e w' => e = .returned (.bool (okP p)) ∧ Below w.heap.size w w' := by
  have hpl := hsp.1
  have HP : Hid (SK front B w (.slice a p.length cap) p) := hp
  have HSP : Hid (SmallP p) := hsp
  clear hp hsp
  by_cases h1 : 1 ≤ p.length
  · have h1b : ((p.length : Int) == 0) = false := by
      have : ¬ (p.length : Int) = 0 := by omega
      simpa using this
    by_cases h6 : p.length ≤ 6
    · have h6i : ¬ (6 : Int) < (p.length : Int) := by omega
      obtain ⟨b, o, rfl, _, _⟩ := HP.out.get (k := 0) (by omega)
      obtain ⟨W, hW⟩ : ∃ W, W = w.alloc (.cells #[.slice (some ⟨b, o, none⟩) p.length cap] 30) := ⟨_, rfl⟩
      have hwW : Below w.heap.size w W := by rw [hW]; exact (Below.refl _ _).alloc (Nat.le_refl _) _
      have P0 : Hid (Cells W w.heap.size [.slice (some ⟨b, o, none⟩) p.length cap]) := by rw [hW]; exact Cells.new w _ rfl _ _
      go_enter Tryz.func30, Tryz.ntmps30
      go_wp2
      rw [← hW]
      clear hW
      go_loopw [19] (fun v wr => ∃ i : Nat, i ≤ p.length ∧ v = .int .i64 i ∧ Hid (∀ j, j < i → okAt p j = true) ∧ Below W.heap.size W wr) (fun v _ => p.length - (intOf v).toNat)
      case atStart => exact ⟨0, Nat.zero_le _, rfl, fun j h => absurd h (Nat.not_lt_zero _), Below.refl _ _⟩
      case round =>
        obtain ⟨i, hi, rfl, hall, hb⟩ := hrel
        have hwr : Below w.heap.size w wr := below_over hwW hb
        obtain ⟨pp0, _⟩ := (P0.out.on hb).g0
        by_cases hlt : i < p.length
        · have hii : (i : Int) < (p.length : Int) := by omega
          have HNO : Hid (okAt p i = false → okP p = false) := fun h => okP_no hlt h
          have HYES : Hid (okAt p i = true → ∀ j, j < i + 1 → okAt p j = true) := fun h j hj => by
            by_cases e : j = i
            · rw [e]; exact h
            · exact hall.out j (by omega)
          have HSUP : Hid (SupOk p i) := SupOk.of hall.out
          clear hall
          go_wp2_with fail
          refine (isClassOf B p i (some ⟨b, o, none⟩) cap hlt h6 HSUP.out HSP.out _ (SK.on HP.out (Keep.of hwr))).mono ?_
          rintro e w1 ⟨rfl, hb1⟩
          have hw1 : Below w.heap.size w w1 := below_over hwr hb1
          have hW1 : Below W.heap.size W w1 := below_over hb hb1
          clear hb1 pp0
          cases hq : okAt p i
          · have HX : Hid (okP p = false) := HNO.out hq
            go_wp2
            go_ret
            exact ⟨retB HX.out.symm, hw1⟩
          · have HX : Hid (∀ j, j < i + 1 → okAt p j = true) := HYES.out hq
            clear HNO HYES
            go_wp2
            go_roundw
            case rel => exact ⟨i + 1, by omega, by go_num, HX.out, hW1⟩
            case measure => simp [intOf]; omega
        · have HMN : Hid (okP p = mainOk p) := okP_main h1 h6 (fun j hj => hall.out j (by omega))
          have h0 : 0 < p.length := by omega
          have h0i : (0 : Int) < (p.length : Int) := by omega
          obtain ⟨b', o', hbo, _, vf, vm, d0, d1, d2, hcv⟩ := HP.out.get h0
          simp at hbo
          obtain ⟨rfl, rfl⟩ := hbo
          obtain ⟨z1, t1, rfl⟩ := hcv.1.form
          obtain ⟨z2, t2, rfl⟩ := hcv.2.form
          have l0 : b < w.heap.size := cell_lt d0
          have c0 := (hwr.cell l0).trans d0
          have c1 := (hwr.cell l0).trans d1
          have c2 := (hwr.cell l0).trans d2
          simp only [Nat.zero_mul, Nat.add_zero] at c0 c1 c2
          have HM : Hid (SM front B w (.slice z2 p[0].meths.length t2) p[0].meths) := hcv.2
          have hsm := (HSP.out.2 _ (List.getElem_mem h0)).2.1
          have HMO : Hid ((ownF p[0] 0 = none → mainOk p = false) ∧ ∀ m, ownF p[0] 0 = some m → mainOk p = (decide (m.args.length = 0) && decide (m.gives = -1))) := mainOk_of (List.getElem?_eq_getElem h0)
          generalize p[0] = c at *
          clear hcv d0 d1 d2 hall
          go_wp2_with fail
          refine (ownMethodR B c z1 z2 t2 c.fields.length t1 0 hsm w _ hwr HM.out).mono ?_
          rintro e w1 ⟨n, f1, l1, g1, gv, f2, l2, g2, q, rfl, hor, hb1⟩
          have hw1 : Below w.heap.size w w1 := below_over hwr hb1
          clear hb1 c0 c1 c2 pp0
          rcases hor.out with ⟨rfl, x, hox, rfl, rfl, rfl, rfl, hxv⟩ | ⟨rfl, hox⟩
          · have HX : Hid (okP p = (decide (x.args.length = 0) && decide (x.gives = -1))) := by show _ = _; rw [HMN.out]; exact HMO.out.2 x hox
            clear hor hox hxv HMN HMO
            by_cases ha : x.args.length = 0
            · have hai : ((x.args.length : Int) == 0) = true := by simp [ha]
              by_cases hg : x.gives = -1
              · have hgb : (x.gives == -1) = true := by simpa using hg
                have HX2 : Hid (okP p = true) := by show _ = _; rw [HX.out]; simp [ha, hg]
                clear HX ha hg
                go_wp2
                go_ret
                exact ⟨retB HX2.out.symm, hw1.alloc hw1.size _⟩
              · have hgb : (x.gives == -1) = false := by simpa using hg
                have HX2 : Hid (okP p = false) := by show _ = _; rw [HX.out]; simp [hg]
                clear HX ha hg
                go_wp2
                go_ret
                exact ⟨retB HX2.out.symm, hw1.alloc hw1.size _⟩
            · have hai : ((x.args.length : Int) == 0) = false := by
                have : ¬ (x.args.length : Int) = 0 := by omega
                simpa using this
              have HX2 : Hid (okP p = false) := by show _ = _; rw [HX.out]; simp [ha]
              clear HX ha
              go_wp2
              go_ret
              exact ⟨retB HX2.out.symm, hw1.alloc hw1.size _⟩
          · have HX : Hid (okP p = false) := by show _ = _; rw [HMN.out]; exact HMO.out.1 hox
            clear hor hox HMN HMO
            go_wp2
            go_ret
            exact ⟨retB HX.out.symm, hw1.alloc hw1.size _⟩
    · have HX : Hid (okP p = false) := okP_many (by omega)
      have h7 : (6 : Int) < (p.length : Int) := by omega
      go_enter Tryz.func30, Tryz.ntmps30
      go_wp2
      go_ret
      exact ⟨retB HX.out.symm, (Below.refl _ _).alloc (Nat.le_refl _) _⟩
  · have HX : Hid (okP p = false) := okP_few (by omega)
    have h1b : ((p.length : Int) == 0) = true := by
      have : (p.length : Int) = 0 := by omega
      simpa using this
    go_enter Tryz.func30, Tryz.ntmps30
    go_wp2
    go_ret
    exact ⟨retB HX.out.symm, (Below.refl _ _).alloc (Nat.le_refl _) _⟩
end Pg
end Go.Proofs.YtinanjjhkddikaaGreat

/- Contracts of the other side's small functions on programs. -/
namespace Go.Proofs.YtinanjjhkddikaaGreat
namespace Pg
open Go.ChangeShapes Go.WideShapes Go.ChangeAt Go.RowKit St

set_option maxHeartbeats 400000 in
theorem l4Type (t n : Int) (w : World) :
    Calls Tryz.prog 40 #[.int .i64 t, .int .i64 n] w fun e w' => e = .returned (.bool (tyB n t)) ∧ w = w' := by
  by_cases h1 : t = -1
  · have HN : Hid (tyB n t = true) := by show _ = _; simp [tyB, h1]
    have hb : (t == -1) = true := by simpa using h1
    go_enter Tryz.func40, Tryz.ntmps40
    go_wp2
    go_ret
    exact ⟨retB HN.out.symm, rfl⟩
  · have hb : (t == -1) = false := by simpa using h1
    by_cases h2 : 0 ≤ t
    · by_cases h3 : t < n
      · have HN : Hid (tyB n t = true) := by show _ = _; simp [tyB, h2, h3]
        go_enter Tryz.func40, Tryz.ntmps40
        go_wp2
        go_ret
        exact ⟨retB HN.out.symm, rfl⟩
      · have HN : Hid (tyB n t = false) := by show _ = _; simp [tyB, h1, h3]
        go_enter Tryz.func40, Tryz.ntmps40
        go_wp2
        go_ret
        exact ⟨retB HN.out.symm, rfl⟩
    · have HN : Hid (tyB n t = false) := by show _ = _; simp [tyB, h1, h2]
      go_enter Tryz.func40, Tryz.ntmps40
      go_wp2
      go_ret
      exact ⟨retB HN.out.symm, rfl⟩

/-- The place of the class's own method of this name, or -1. -/
def ownI (c : Cls) (name : Int) : Int := match c.meths.findIdx? (fun m => decide (m.name = name)) with | none => -1 | some k => k
theorem ownI_none {c : Cls} {name : Int} (h : ∀ j, j < c.meths.length → ∀ m, c.meths[j]? = some m → m.name ≠ name) : ownI c name = -1 ∧ ownF c name = none := by
  refine ⟨?_, find_none h⟩
  have : c.meths.findIdx? (fun m => decide (m.name = name)) = none := by
    rw [List.findIdx?_eq_none_iff]
    intro m hm
    obtain ⟨j, hj, rfl⟩ := List.getElem_of_mem hm
    simpa using h j hj _ (List.getElem?_eq_getElem hj)
  simp [ownI, this]
theorem ownI_some {c : Cls} {name : Int} {k : Nat} {m : Meth} (h : ∀ j, j < k → ∀ m, c.meths[j]? = some m → m.name ≠ name) (hk : c.meths[k]? = some m) (hn : m.name = name) : ownI c name = (k : Int) ∧ ownF c name = some m := by
  refine ⟨?_, find_at h hk hn⟩
  obtain ⟨hlt, hm⟩ := List.getElem?_eq_some_iff.1 hk
  have : c.meths.findIdx? (fun m => decide (m.name = name)) = some k := by
    rw [List.findIdx?_eq_some_iff_getElem]
    refine ⟨hlt, by rw [hm]; simpa using hn, fun j hj => ?_⟩
    simpa using h j hj _ (List.getElem?_eq_getElem (by omega))
  simp [ownI, this]
theorem ownI_cases (c : Cls) (name : Int) : (ownI c name = -1 ∧ ownF c name = none) ∨ ∃ k m, k < c.meths.length ∧ c.meths[k]? = some m ∧ ownI c name = (k : Int) ∧ ownF c name = some m := by
  cases h : c.meths.findIdx? (fun m => decide (m.name = name)) with
  | none =>
    left
    rw [List.findIdx?_eq_none_iff] at h
    exact ownI_none fun j hj m hm => by
      have := h m (List.mem_of_getElem? hm)
      simpa using this
  | some k =>
    right
    rw [List.findIdx?_eq_some_iff_getElem] at h
    obtain ⟨hlt, h1, h2⟩ := h
    obtain ⟨e1, e2⟩ := ownI_some (c := c) (name := name) (k := k) (m := c.meths[k]) (fun j hj m hm => by
      have := h2 j hj
      rw [List.getElem?_eq_getElem (by omega)] at hm
      simp at hm
      subst hm
      simpa using this) (List.getElem?_eq_getElem hlt) (by simpa using h1)
    exact ⟨k, _, hlt, List.getElem?_eq_getElem hlt, e1, e2⟩

set_option maxHeartbeats 800000 in
theorem l4Own (B : Nat) (c : Cls) (q a : Option Addr) (cap af cf : Nat) (name : Int) (hn : c.meths.length ≤ 1048576) (w : World) (hm : SM front B w (.slice a c.meths.length cap) c.meths) :
    Calls Tryz.prog 42 #[.agg #[.int .i64 c.super, .slice q af cf, .slice a c.meths.length cap], .int .i64 name] w fun e w' => e = .returned (.int .i64 (ownI c name)) ∧ Below w.heap.size w w' := by
  obtain ⟨W, hW⟩ : ∃ W, W = w.alloc (.cells #[.int .i64 c.super, .slice q af cf, .slice a c.meths.length cap] 52) := ⟨_, rfl⟩
  have hwW : Below w.heap.size w W := by rw [hW]; exact (Below.refl _ _).alloc (Nat.le_refl _) _
  have HM : Hid (SM front B W (.slice a c.meths.length cap) c.meths) := SM.on hm (Keep.of hwW)
  have C0 : Hid (Cells W w.heap.size [.int .i64 c.super, .slice q af cf, .slice a c.meths.length cap]) := by rw [hW]; exact Cells.new w _ rfl _ _
  clear hm
  go_enter Tryz.func42, Tryz.ntmps42
  go_wp2
  rw [← hW]
  clear hW
  go_loopw [5] (fun i wr => ∃ k : Nat, k ≤ c.meths.length ∧ i = .int .i64 k ∧ Hid (∀ j, j < k → ∀ m, c.meths[j]? = some m → m.name ≠ name) ∧ Below W.heap.size W wr) (fun i _ => c.meths.length - (intOf i).toNat)
  case atStart => exact ⟨0, Nat.zero_le _, rfl, fun j h => absurd h (Nat.not_lt_zero _), Below.refl _ _⟩
  case round =>
    obtain ⟨k, hk, rfl, hno, hb⟩ := hrel
    have hwr : Below w.heap.size w wr := below_over hwW hb
    obtain ⟨q2, _⟩ := (C0.out.on hb).g2
    by_cases hlt : k < c.meths.length
    · obtain ⟨b, o, rfl, _, va, vc, c0, _⟩ := (SM.on HM.out (Keep.of hb)).get hlt
      have HK : Hid (c.meths[k].name = name → ownI c name = (k : Int)) := fun h => (ownI_some hno.out (List.getElem?_eq_getElem hlt) h).1
      have HKN : Hid (c.meths[k].name ≠ name → ∀ j, j < k + 1 → ∀ m, c.meths[j]? = some m → m.name ≠ name) := fun h j hj m hm => by
        by_cases e : j = k
        · subst e
          rw [List.getElem?_eq_getElem hlt] at hm
          simp at hm
          subst hm
          exact h
        · exact hno.out j (by omega) m hm
      clear hno
      generalize c.meths[k] = m at *
      have hki : (k : Int) < (c.meths.length : Int) := by omega
      by_cases hnm : m.name = name
      · have HO : Hid (ownI c name = (k : Int)) := HK.out hnm
        have hnb : (m.name == name) = true := by simpa using hnm
        clear HK HKN hnm
        go_wp2
        go_ret
        exact ⟨retI HO.out.symm, hwr⟩
      · have HN : Hid (∀ j, j < k + 1 → ∀ m, c.meths[j]? = some m → m.name ≠ name) := HKN.out hnm
        have hnb : (m.name == name) = false := by simpa using hnm
        clear HK HKN hnm
        go_wp2
        go_roundw
        case rel => exact ⟨k + 1, by omega, by go_num, HN.out, hb⟩
        case measure => simp [intOf]; omega
    · have HN : Hid (ownI c name = -1) := (ownI_none (fun j hj m hm => hno.out j (by omega) m hm)).1
      go_wp2
      go_ret
      exact ⟨retI HN.out.symm, hwr⟩

theorem diffNo {l r : List Int} {k : Nat} (h1 : k < l.length) (h2 : k < r.length) (h : l[k] ≠ r[k]) : decide (l = r) = false := by
  simp only [decide_eq_false_iff_not]
  intro e
  subst e
  exact h rfl
theorem sameTake {l r : List Int} {k : Nat} (h1 : k < l.length) (h2 : k < r.length) (h : l.take k = r.take k) (he : l[k] = r[k]) : l.take (k + 1) = r.take (k + 1) := by
  rw [List.take_succ_eq_append_getElem h1, List.take_succ_eq_append_getElem h2, h, he]
set_option maxHeartbeats 1000000 in
theorem l4Like {f f' : Bool} (B B' : Nat) (a a' : Option Addr) (cap cap' : Nat) (l r : List Int) (hl : l.length ≤ 1048576) (w : World) (h1 : SI f B w (.slice a l.length cap) l) (h2 : SI f' B' w (.slice a' r.length cap') r) :
    Calls Tryz.prog 43 #[.slice a l.length cap, .slice a' r.length cap'] w fun e w' => e = .returned (.bool (decide (l = r))) ∧ Below w.heap.size w w' := by
  have H1 : Hid (SI f B w (.slice a l.length cap) l) := h1
  have H2 : Hid (SI f' B' w (.slice a' r.length cap') r) := h2
  clear h1 h2
  by_cases hlen : l.length = r.length
  · have HLEN : Hid (l.length = r.length) := hlen
    rw [← hlen]
    clear hlen
    go_enter Tryz.func43, Tryz.ntmps43
    go_wp2
    go_loopw [5] (fun i wr => ∃ k : Nat, k ≤ l.length ∧ i = .int .i64 k ∧ Hid (l.take k = r.take k) ∧ Below w.heap.size w wr) (fun i _ => l.length - (intOf i).toNat)
    case atStart => exact ⟨0, Nat.zero_le _, rfl, rfl, Below.refl _ _⟩
    case round =>
      obtain ⟨k, hk, rfl, hsame, hb⟩ := hrel
      by_cases hlt : k < l.length
      · have hlr : k < r.length := by rw [← HLEN.out]; exact hlt
        obtain ⟨b, o, rfl, _, a0⟩ := (SI.on H1.out (Keep.of hb)).get hlt
        obtain ⟨b', o', rfl, _, b0⟩ := (SI.on H2.out (Keep.of hb)).get hlr
        unfold IntAt at a0 b0
        rw [Nat.mul_one] at a0 b0
        have HT : Hid (l[k] = r[k] → l.take (k + 1) = r.take (k + 1)) := fun h => sameTake hlt hlr hsame.out h
        have HF : Hid (l[k] ≠ r[k] → decide (l = r) = false) := fun h => diffNo hlt hlr h
        generalize l[k] = x at *
        generalize r[k] = y at *
        clear hlr hsame
        have hki : (k : Int) < (l.length : Int) := by omega
        have hki0 : (0 : Int) ≤ (k : Int) := by omega
        have r0 := cell_regrown a0
        have s0 := cell_regrown b0
        by_cases hxy : x = y
        · subst hxy
          have HS : Hid (l.take (k + 1) = r.take (k + 1)) := HT.out rfl
          clear HT HF
          go_wp2_with fail
          refine wp_region_quiet_below (by kernel_rfl) (by kernel_rfl) ?_
          repeat (quiet_step (fail))
          refine wpQuiet_nil ?_
          intro _ hw'
          obtain ⟨⟨dq, osq⟩, hw''⟩ := hw'
          subst hw''
          have hw1 : Below w.heap.size w (Sort.grow (redrawn wr dq) osq) := below_over hb (below_regrown wr dq osq)
          clear a0 b0 r0 s0 hb
          generalize Sort.grow (redrawn wr dq) osq = w1 at *
          go_wp2
          go_roundw
          case rel => exact ⟨k + 1, by omega, by go_num, HS.out, hw1⟩
          case measure => simp [intOf]; omega
        · have HS : Hid (decide (l = r) = false) := HF.out hxy
          have hxb : (x != y) = true := by simpa using hxy
          clear HT HF
          go_wp2_with fail
          refine wp_region_quiet_below (by kernel_rfl) (by kernel_rfl) ?_
          repeat (quiet_step (fail))
          refine wpQuiet_nil ?_
          intro _ hw'
          obtain ⟨⟨dq, osq⟩, hw''⟩ := hw'
          subst hw''
          have hw1 : Below w.heap.size w (Sort.grow (redrawn wr dq) osq) := below_over hb (below_regrown wr dq osq)
          clear a0 b0 r0 s0 hb
          generalize Sort.grow (redrawn wr dq) osq = w1 at *
          go_wp2
          go_ret
          exact ⟨retB HS.out.symm, hw1⟩
      · have HN : Hid (decide (l = r) = true) := by
          show _ = _
          have h := hsame.out
          rw [List.take_of_length_le (by omega), List.take_of_length_le (by have := HLEN.out; omega)] at h
          simpa using h
        go_wp2
        go_ret
        exact ⟨retB HN.out.symm, hb⟩
  · have HN : Hid (decide (l = r) = false) := by
      show _ = _
      simp only [decide_eq_false_iff_not]
      intro e; exact hlen (by rw [e])
    have hnb : ((l.length : Int) != (r.length : Int)) = true := by
      have : ¬ (l.length : Int) = (r.length : Int) := by omega
      simpa using this
    go_enter Tryz.func43, Tryz.ntmps43
    go_wp2
    go_ret
    exact ⟨retB HN.out.symm, Below.refl _ _⟩

set_option maxHeartbeats 1000000 in
theorem l4Method (B : Nat) (m : Meth) (n : Int) (va vc : Value) (hs : SmallM m) (w : World) (hv : MV front B w va vc m) :
    Calls Tryz.prog 41 #[.agg #[.int .i64 m.name, va, .int .i64 m.gives, vc], .int .i64 n] w fun e w' => e = .returned (.bool (okMB n m)) ∧ Below w.heap.size w w' := by
  obtain ⟨x1, y1, rfl⟩ := hv.1.form
  obtain ⟨gc, y2, rfl, _, _, hrow, _⟩ := hv.2
  have HI : Hid (SI true B w (.slice x1 m.args.length y1) m.args) := hv.1
  have HR : Hid (Row w gc 0 m.code) := hrow
  have hs1 := hs.1
  have hs2 := hs.2
  clear hv hrow hs
  obtain ⟨W, hW⟩ : ∃ W, W = w.alloc (.cells #[.int .i64 m.name, .slice x1 m.args.length y1, .int .i64 m.gives, .slice (some ⟨gc, 0, none⟩) m.code.length y2] 55) := ⟨_, rfl⟩
  have hwW : Below w.heap.size w W := by rw [hW]; exact (Below.refl _ _).alloc (Nat.le_refl _) _
  have M0 : Hid (Cells W w.heap.size [.int .i64 m.name, .slice x1 m.args.length y1, .int .i64 m.gives, .slice (some ⟨gc, 0, none⟩) m.code.length y2]) := by rw [hW]; exact Cells.new w _ rfl _ _
  obtain ⟨nm, hnm⟩ : ∃ nm, nm = (decide (0 ≤ m.name) && decide (m.name ≤ 19)) := ⟨_, rfl⟩
  obtain ⟨m0, _⟩ := M0.out.g0
  obtain ⟨m1, _⟩ := M0.out.g1
  obtain ⟨m2, _⟩ := M0.out.g2
  obtain ⟨m3, _⟩ := M0.out.g3
  have HOK : Hid (okMB n m = (nm && decide (m.args.length ≤ 3) && m.args.all (tyB n) && tyB n m.gives && Lay.codeOk m.code)) := by
    show _ = _
    unfold okMB
    rw [hnm]
  go_enter Tryz.func41, Tryz.ntmps41
  go_wp2_with fail
  rw [← hW]
  clear hW
  refine (l1In m.name 0 19 _).mono ?_
  rw [← hnm]
  rintro e w1 ⟨rfl, rfl⟩
  clear hnm
  cases nm
  · have HF : Hid (okMB n m = false) := by show _ = _; rw [HOK.out]; simp
    go_wp2
    go_ret
    exact ⟨retB HF.out.symm, hwW⟩
  · by_cases h3 : m.args.length ≤ 3
    · have h3i : ¬ (3 : Int) < (m.args.length : Int) := by omega
      go_wp2_with fail
      refine (l4Type m.gives n _).mono ?_
      rintro e w1 ⟨rfl, rfl⟩
      cases hg : tyB n m.gives
      · have HF : Hid (okMB n m = false) := by show _ = _; rw [HOK.out, hg]; simp
        go_wp2
        go_ret
        exact ⟨retB HF.out.symm, hwW⟩
      · go_wp2_with fail
        refine (specCodeOk gc y2 m.code hs2 _ (HR.out.on hwW)).mono ?_
        rintro e w2 ⟨rfl, hb2⟩
        have hw2 : Below w.heap.size w w2 := below_over hwW hb2
        cases hc : Lay.codeOk m.code
        · have HF : Hid (okMB n m = false) := by show _ = _; rw [HOK.out, hc]; simp
          clear hb2
          go_wp2
          go_ret
          exact ⟨retB HF.out.symm, hw2⟩
        · have HF : Hid (okMB n m = m.args.all (tyB n)) := by show _ = _; rw [HOK.out, hc, hg]; simp [h3]
          clear HOK m0 m1 m2 m3
          go_wp2
          go_loopw [5] (fun i wr => ∃ k : Nat, k ≤ m.args.length ∧ i = .int .i64 k ∧ Hid ((m.args.take k).all (tyB n) = true) ∧ Below W.heap.size W wr) (fun i _ => m.args.length - (intOf i).toNat)
          case atStart => exact ⟨0, Nat.zero_le _, rfl, rfl, hb2⟩
          case round =>
            clear hb2 hw2
            obtain ⟨k, hk, rfl, hall, hb⟩ := hrel
            have hwr : Below w.heap.size w wr := below_over hwW hb
            obtain ⟨q1, _⟩ := (M0.out.on hb).g1
            by_cases hlt : k < m.args.length
            · obtain ⟨b, o, rfl, _, c1⟩ := (SI.on HI.out (Keep.of hwr)).get hlt
              unfold IntAt at c1
              rw [Nat.mul_one] at c1
              have HT : Hid (tyB n m.args[k] = true → (m.args.take (k + 1)).all (tyB n) = true) := fun h => take_all hlt hall.out h
              have HNO : Hid (tyB n m.args[k] = false → m.args.all (tyB n) = false) := fun h => all_no hlt h
              generalize m.args[k] = t at *
              have hki : (k : Int) < (m.args.length : Int) := by omega
              clear hall
              go_wp2_with fail
              refine (l4Type t n _).mono ?_
              rintro e w1 ⟨rfl, rfl⟩
              clear q1 c1
              cases ht : tyB n t
              · have HX : Hid (okMB n m = false) := by show _ = _; rw [HF.out]; exact HNO.out ht
                go_wp2
                go_ret
                exact ⟨retB HX.out.symm, hwr⟩
              · have HX : Hid ((m.args.take (k + 1)).all (tyB n) = true) := HT.out ht
                clear HT HNO
                go_wp2
                go_roundw
                case rel => exact ⟨k + 1, by omega, by go_num, HX.out, hb⟩
                case measure => simp [intOf]; omega
            · have HX : Hid (okMB n m = true) := by
                show _ = _
                rw [HF.out]
                have h := hall.out
                rw [List.take_of_length_le (by omega)] at h
                exact h
              go_wp2
              go_ret
              exact ⟨retB HX.out.symm, hwr⟩
    · have HF : Hid (okMB n m = false) := by show _ = _; rw [HOK.out]; simp [h3]
      have h3i : (3 : Int) < (m.args.length : Int) := by omega
      go_wp2
      go_ret
      exact ⟨retB HF.out.symm, hwW⟩
end Pg
end Go.Proofs.YtinanjjhkddikaaGreat
