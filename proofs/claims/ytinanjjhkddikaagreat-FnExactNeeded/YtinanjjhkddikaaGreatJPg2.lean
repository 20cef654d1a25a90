/- The row of finds: its own Push and Pop. -/
import Derived.Test.YtinanjjhkddikaaGreatJSf5
import Derived.Test.YtinanjjhkddikaaGreatJFl0
namespace Go.Proofs.YtinanjjhkddikaaGreat
namespace Pg
open Go.ChangeShapes Go.WideShapes Go.ChangeAt Go.RowKit St Wd
theorem cell_threeF (w : World) (a b c : Value) (t : TypeId) : ∀ (j : Nat) (u : Value), [a, b, c][j]? = some u → (w.alloc (.cells #[a, b, c] t)).cell? ((⟨w.heap.size, 0, none⟩ : Addr).add j) = some u := fun j u h => by
  have k : Cells (w.alloc (.cells #[a, b, c] t)) w.heap.size [a, b, c] := Cells.new w _ rfl _ _
  rw [Go.WideShapes.add_plain, Nat.zero_add]
  exact (k j u h).1
theorem Cells.grownF {u v : World} {k : Nat} {x : Value} {vs : List Value} {row : Option Nat} (h : Cells u k (x :: vs)) (hg : u.grownBy v row) (hne : row ≠ some k) : Cells v k (x :: vs) := fun i y hy => by
  have hk : k < u.heap.size := cell_lt h.g0.1
  have e := hg.block k hk (fun q => hne q.symm)
  obtain ⟨h1, h2⟩ := h i y hy
  exact ⟨(World.cell?_of_block (w := u) e).trans h1, (World.frozen?_of_block (w := u) e).trans h2⟩
theorem rf_snoc {B : Nat} {w : World} {v : Value} {T : List Fd} {f : Fd} (h : w.ownsRow B 58 3 v (T.length + 1) (flatF T ++ [.int .i64 f.1, .int .i64 f.2.1, .int .i64 f.2.2])) : RF B w v (T ++ [f]) := by
  unfold RF
  rw [flatF_app, List.length_append]
  exact h
theorem RF.setF {B : Nat} {w : World} {v : Value} {T : List Fd} (h : RF B w v T) {p : Addr} (hp : v.ownBlock ≠ Option.some p.block) (x : Value) : RF B (w.setCell p x) v T :=
  h.kept (row := Option.some p.block) ⟨rfl, rfl, rfl, by simp, fun k _ hk => Below.heap_setCell w p x k (fun e => hk (by rw [e]))⟩ (.inr hp)
theorem Tcs.grownF {S : Nat → Prop} {u x w : World} {row : Option Nat} (h : Below u.heap.size u x) (hg : x.grownBy w row) (hS : ∀ k, row = some k → S k) : Tcs S u w :=
  ⟨hg.os.trans h.os, hg.tape.trans h.tape, hg.output.trans h.output, Nat.le_trans h.size hg.size, fun k hk hn => (hg.block k (Nat.lt_of_lt_of_le hk h.size) (fun e => hn (hS k e.symm))).trans (h.block k hk)⟩
theorem ta_find (f : Fd) (w : World) : (Instr.typeAssert (.iface 58 (fdV f)) 20 58 false).run Tryz.prog w = .ok (fdV f) w := by kernel_rfl
set_option maxRecDepth 100000 in
set_option maxHeartbeats 4000000 in
theorem findPush (B0 sb : Nat) (x y v : Value) (T : List Fd) (f : Fd) (hn : T.length ≤ 1000) (w : World) (hs : Cells w sb [x, y, v]) (hr : RF B0 w v T) (hB0 : B0 ≤ w.heap.size) (ho : v.ownBlock ≠ some sb) :
    Calls Tryz.prog 142 #[.pointer (some ⟨sb, 2, none⟩), .iface 58 (fdV f)] w fun e w' => e = .returned (.tuple #[]) ∧ ∃ v', Cells w' sb [x, y, v'] ∧ RF B0 w' v' (T ++ [f]) ∧ (v'.ownBlock = v.ownBlock ∨ ∀ g, v'.ownBlock = some g → w.heap.size ≤ g) ∧ Tcs (fun k => k = sb ∨ v.ownBlock = some k) w w' := by
  obtain ⟨i0, hif, hz0, hz1, hz2⟩ := info_parts infoF
  obtain ⟨f0, f1, f2⟩ := f
  obtain ⟨a, c, rfl⟩ := hr.form
  obtain ⟨s2, t2⟩ := hs.g2
  have HS : Hid (Cells w sb [x, y, .slice a T.length c]) := hs
  have HR : Hid (RF B0 w (.slice a T.length c) T) := hr
  have hsl : sb < w.heap.size := cell_lt s2
  clear hs hr
  have hta := ta_find (f0, f1, f2) w
  have htd := ta_find (f0, f1, f2) w.drew
  go_enter Tryz.func142, Tryz.ntmps142
  go_upto_region 0 with fail
  go_region_law (first
    | (refine stepAppF _ rfl (.tmp 7) (.tmp 10) 85 rfl B0 58 i0 (.agg #[.int .i64 0, .int .i64 0, .int .i64 0]) 3 24 Tryz.underlying85 hif hz0 hz1 hz2 rfl (by decide) (.slice a T.length c) T.length (flatF T) (by first | rfl | simp [Act.eval, Act.put]) (HR.out.alloc _) ⟨w.heap.size, 0, none⟩ 1 1 [.int .i64 f0, .int .i64 f1, .int .i64 f2] (by first | rfl | simp [Act.eval, Act.put]) rfl (cell_threeF w.drew _ _ _ _) (by simp [Value.oneCell']) (by unfold maxLen; omega) (by omega) (by simp; omega) ?_; intro v3 w3 hown3 hgrow3 hnil3 hat3; have hq3 : RF B0 w3 v3 (T ++ [(f0, f1, f2)]) := rf_snoc hown3; have hc3 := (HS.out.on (((Below.refl w.heap.size w).drew).alloc (Nat.le_refl _) _)).grownF hgrow3 ho; obtain ⟨a3, d3, he3⟩ := hq3.form; have he4 : v3 = .slice a3 (T.length + 1) d3 := (by rw [he3]; simp); subst he4; clear he3; obtain ⟨q2, r2⟩ := hc3.g2))
  all_goals
    have hc4 := hc3.s2 (.slice a3 (T.length + 1) d3)
    have ho3 : (Value.slice a3 (T.length + 1) d3).ownBlock ≠ some sb := fun e => by
      rcases hat3 with h | h
      · exact ho (h ▸ e)
      · rw [h] at e; simp at e; omega
    have hq4 : RF B0 (w3.setCell ⟨sb, 2, none⟩ (.slice a3 (T.length + 1) d3)) (.slice a3 (T.length + 1) d3) (T ++ [(f0, f1, f2)]) := RF.setF hq3 (p := ⟨sb, 2, none⟩) ho3 _
    have ht3 : Tcs (fun k => k = sb ∨ (Value.slice a T.length c).ownBlock = some k) w w3 := Tcs.grownF (((Below.refl w.heap.size w).drew).alloc (Nat.le_refl _) _) hgrow3 (fun k e => .inr e)
    have ht4 := ht3.trans (Tcs.set (S := fun k => k = sb ∨ (Value.slice a T.length c).ownBlock = some k) w3 (p := ⟨sb, 2, none⟩) (.inl rfl) (.slice a3 (T.length + 1) d3))
    have hat4 : (Value.slice a3 (T.length + 1) d3).ownBlock = (Value.slice a T.length c).ownBlock ∨ ∀ g, (Value.slice a3 (T.length + 1) d3).ownBlock = some g → w.heap.size ≤ g := by
      rcases hat3 with h | h
      · exact .inl h
      · exact .inr fun g e => by rw [h] at e; simp at e; omega
    go_end0
    exact ⟨rfl, _, hc4, hq4, hat4, ht4⟩
end Pg
end Go.Proofs.YtinanjjhkddikaaGreat

/- The row of finds: Pop; the library's Push and Pop over it. -/
namespace Go.Proofs.YtinanjjhkddikaaGreat
namespace Pg
open Go.ChangeShapes Go.WideShapes Go.ChangeAt Go.RowKit St Wd
theorem last_of {T : List Fd} {n : Nat} (h : T.length = n + 1) : ∃ (T' : List Fd) (f : Fd), T = T' ++ [f] ∧ T'.length = n := by
  have hne : T ≠ [] := fun e => by rw [e] at h; simp at h
  refine ⟨T.dropLast, T.getLast hne, (List.dropLast_concat_getLast hne).symm, ?_⟩
  rw [List.length_dropLast, h]; rfl
set_option maxRecDepth 100000 in
set_option maxHeartbeats 4000000 in
theorem findPop (B0 sb g c n : Nat) (x y : Value) (T : List Fd) (f : Fd) (hT : T.length = n) (hn : n ≤ 1000) (hsb : sb ≠ g) (w : World) (hs : Cells w sb [x, y, .slice (some ⟨g, 0, none⟩) (n + 1) c]) (hr : RF B0 w (.slice (some ⟨g, 0, none⟩) (n + 1) c) (T ++ [f])) :
    Calls Tryz.prog 141 #[.pointer (some ⟨sb, 2, none⟩)] w fun e w' => e = .returned (.iface 58 (fdV f)) ∧ Cells w' sb [x, y, .slice (some ⟨g, 0, none⟩) n c] ∧ RF B0 w' (.slice (some ⟨g, 0, none⟩) n c) T ∧ Tcs (fun k => k = sb) w w' := by
  have hlen : (T ++ [f]).length = n + 1 := by simp [hT]
  have hr' := hr
  rw [← hlen] at hr'
  obtain ⟨a0, a1, a2⟩ := hr'.at (j := n) (f := f) (by rw [← hT]; simp)
  have hnc : n + 1 ≤ c := by
    obtain ⟨g', c', e, _, _, h, _⟩ := hr'.some (by rw [hlen]; omega)
    rw [hlen] at e h
    injection e with e1 e2 e3
    omega
  obtain ⟨s2, t2⟩ := hs.g2
  obtain ⟨f0, f1, f2⟩ := f
  dsimp only at *
  have h0 : Cells (w.setCell ⟨sb, 2, none⟩ (.slice (some ⟨g, 0, none⟩) n c)) sb [x, y, .slice (some ⟨g, 0, none⟩) n c] := hs.s2 _
  have h4 : RF B0 (w.setCell ⟨sb, 2, none⟩ (.slice (some ⟨g, 0, none⟩) n c)) (.slice (some ⟨g, 0, none⟩) n c) T := (RF.pop hT.symm hr).setF (p := ⟨sb, 2, none⟩) (fun e => hsb (by simpa [Value.ownBlock] using e.symm)) _
  have h5 : Tcs (fun k => k = sb) w (w.setCell ⟨sb, 2, none⟩ (.slice (some ⟨g, 0, none⟩) n c)) := Tcs.set (S := fun k => k = sb) w (p := ⟨sb, 2, none⟩) rfl _
  have hF : ∀ o, Cells ((w.setCell ⟨sb, 2, none⟩ (.slice (some ⟨g, 0, none⟩) n c)).alloc o) sb [x, y, .slice (some ⟨g, 0, none⟩) n c] ∧ RF B0 ((w.setCell ⟨sb, 2, none⟩ (.slice (some ⟨g, 0, none⟩) n c)).alloc o) (.slice (some ⟨g, 0, none⟩) n c) T ∧ Tcs (fun k => k = sb) w ((w.setCell ⟨sb, 2, none⟩ (.slice (some ⟨g, 0, none⟩) n c)).alloc o) := fun o =>
    ⟨h0.alloc _, h4.on ((Below.refl _ _).alloc (Nat.le_refl _) _), h5.trans (Tcs.of ((Below.refl _ _).alloc (Nat.le_refl _) _))⟩
  have HFF : Hid (∀ o, Cells ((w.setCell ⟨sb, 2, none⟩ (.slice (some ⟨g, 0, none⟩) n c)).alloc o) sb [x, y, .slice (some ⟨g, 0, none⟩) n c] ∧ RF B0 ((w.setCell ⟨sb, 2, none⟩ (.slice (some ⟨g, 0, none⟩) n c)).alloc o) (.slice (some ⟨g, 0, none⟩) n c) T ∧ Tcs (fun k => k = sb) w ((w.setCell ⟨sb, 2, none⟩ (.slice (some ⟨g, 0, none⟩) n c)).alloc o)) := hF
  have v2 : (w.alloc (.cells #[.int .i64 f0, .int .i64 f1, .int .i64 f2] 58)).cell? ⟨sb, 2, none⟩ = some (.slice (some ⟨g, 0, none⟩) (n + 1) c) := (hs.alloc _).g2.1
  have u2 : (w.alloc (.cells #[.int .i64 f0, .int .i64 f1, .int .i64 f2] 58)).frozen? ⟨sb, 2, none⟩ = false := (hs.alloc _).g2.2
  have hlt : sb < w.heap.size := cell_lt s2
  clear hs hr hr' hlen h0 h4 h5 hF
  have hni : (n : Int) < ((n + 1 : Nat) : Int) := by omega
  go_enter Tryz.func141, Tryz.ntmps141
  go_wp2
  go_ret
  obtain ⟨h1, h2, h3⟩ := HFF.out (.cells #[.int .i64 f0, .int .i64 f1, .int .i64 f2] 58)
  exact ⟨rfl, h1, h2, h3⟩
set_option maxRecDepth 100000 in
set_option maxHeartbeats 4000000 in
theorem heapPush (B0 sb : Nat) (x y v : Value) (T : List Fd) (f : Fd) (hn : T.length ≤ 900) (w : World) (hs : Cells w sb [x, y, v]) (hr : RF B0 w v T) (hB0 : B0 ≤ w.heap.size) (ho : v.ownBlock ≠ some sb) :
    Calls Tryz.prog 77 #[.iface 91 (.pointer (some ⟨sb, 2, none⟩)), .iface 58 (fdV f)] w fun e w' => e = .returned (.tuple #[]) ∧ ∃ v' T', Cells w' sb [x, y, v'] ∧ RF B0 w' v' T' ∧ T'.Perm (f :: T) ∧ (v'.ownBlock = v.ownBlock ∨ ∀ g, v'.ownBlock = some g → w.heap.size ≤ g) ∧ Tcs (fun k => k = sb ∨ v.ownBlock = some k) w w' := by
  have hm := m_push ⟨sb, 2, none⟩ w
  have hsl : sb < w.heap.size := cell_lt hs.g0.1
  go_enter Tryz.func77, Tryz.ntmps77
  go_wp2_with fail
  refine (findPush B0 sb x y v T f (by omega) w hs hr hB0 ho).mono ?_
  rintro e w1 ⟨rfl, v1, hs1, hr1, hv1, ht1⟩
  obtain ⟨g, c, rfl, hg1, hg2, hg3, hg4⟩ := hr1.some (by simp)
  have hsb : sb ≠ g := fun e => by
    rcases hv1 with h | h
    · exact ho (h ▸ (by rw [e]; rfl))
    · have := h g rfl; omega
  have hlen : (T ++ [f]).length = T.length + 1 := by simp
  rw [hlen] at hs1 hr1 hv1
  have hc1 := hs1.g2.1
  have hm1 := m_len hc1
  have HS1 : Hid (Cells w1 sb [x, y, .slice (some ⟨g, 0, none⟩) (T.length + 1) c]) := hs1
  have HR1 : Hid (RF B0 w1 (.slice (some ⟨g, 0, none⟩) (T.length + 1) c) (T ++ [f])) := hr1
  have HT1 : Hid (Tcs (fun k => k = sb ∨ v.ownBlock = some k) w w1) := ht1
  have HV1 : Hid ((Value.slice (some ⟨g, 0, none⟩) (T.length + 1) c).ownBlock = v.ownBlock ∨ ∀ g', (Value.slice (some ⟨g, 0, none⟩) (T.length + 1) c).ownBlock = some g' → w.heap.size ≤ g') := hv1
  clear hm hs hr hs1 hr1 ht1 hv1 hg3 hg4
  go_wp2_with fail
  refine (heapLen _ _ _ w1).mono ?_
  rintro e w2 ⟨rfl, rfl⟩
  clear hm1
  go_wp2_with fail
  refine (heapUp B0 sb g c T.length (T.length + 1) (T ++ [f]) hlen (by omega) hsb (by omega) w2 hc1 HR1.out).mono ?_
  rintro e w3 ⟨rfl, T3, hp3, hr3, ht3⟩
  have hfin : ∃ v' T', Cells w3 sb [x, y, v'] ∧ RF B0 w3 v' T' ∧ T'.Perm (f :: T) ∧ (v'.ownBlock = v.ownBlock ∨ ∀ g, v'.ownBlock = some g → w.heap.size ≤ g) ∧ Tcs (fun k => k = sb ∨ v.ownBlock = some k) w w3 := by
    refine ⟨_, T3, HS1.out.tcs ht3 hsb, hr3, hp3.trans (List.perm_append_singleton f T), HV1.out, ?_⟩
    refine ⟨ht3.os.trans HT1.out.os, ht3.tape.trans HT1.out.tape, ht3.output.trans HT1.out.output, Nat.le_trans HT1.out.size ht3.size, fun k hk hn => ?_⟩
    refine (ht3.far k (Nat.lt_of_lt_of_le hk HT1.out.size) (fun e => ?_)).trans (HT1.out.far k hk hn)
    rcases HV1.out with h | h
    · exact hn (.inr (h ▸ (by rw [e]; rfl)))
    · have := h g rfl; omega
  clear hr3 ht3 hp3 hc1
  go_wp2
  go_end0
  exact ⟨rfl, hfin⟩
set_option maxRecDepth 100000 in
set_option maxHeartbeats 4000000 in
theorem heapPop (B0 sb g c n : Nat) (x y : Value) (T : List Fd) (hT : T.length = n + 1) (hn : n ≤ 900) (hsb : sb ≠ g) (w : World) (hs : Cells w sb [x, y, .slice (some ⟨g, 0, none⟩) (n + 1) c]) (hr : RF B0 w (.slice (some ⟨g, 0, none⟩) (n + 1) c) T) :
    Calls Tryz.prog 56 #[.iface 91 (.pointer (some ⟨sb, 2, none⟩))] w fun e w' => ∃ (f : Fd) (T' : List Fd), e = .returned (.iface 58 (fdV f)) ∧ (f :: T').Perm T ∧ T'.length = n ∧ Cells w' sb [x, y, .slice (some ⟨g, 0, none⟩) n c] ∧ RF B0 w' (.slice (some ⟨g, 0, none⟩) n c) T' ∧ Tcs (fun k => k = sb ∨ k = g) w w' := by
  have hc := hs.g2.1
  have hm := m_len hc
  have HS : Hid (Cells w sb [x, y, .slice (some ⟨g, 0, none⟩) (n + 1) c]) := hs
  have HR : Hid (RF B0 w (.slice (some ⟨g, 0, none⟩) (n + 1) c) T) := hr
  clear hs hr
  go_enter Tryz.func56, Tryz.ntmps56
  go_wp2_with fail
  refine (heapLen _ _ _ w).mono ?_
  rintro e w0 ⟨rfl, rfl⟩
  clear hm
  have hm := m_swap hc
  go_wp2_with fail
  have hsw := swapN B0 g c 0 n (n + 1) T hT (by omega) (by omega) w0 HR.out
  rw [show ((0 : Nat) : Int) = 0 from rfl] at hsw
  refine hsw.mono ?_
  rintro e w2 ⟨rfl, hr2, hp2, hl2, ht2⟩
  have hc2 := cell_off ht2 hsb hc
  have HR2 : Hid (RF B0 w2 (.slice (some ⟨g, 0, none⟩) (n + 1) c) (swapF T 0 n)) := hr2
  have HT2 : Hid (Tcs (fun k => k = g) w0 w2) := ht2
  clear hm hsw hr2 ht2 HR
  go_wp2_with fail
  refine (heapDown B0 sb g c (n + 1) n (swapF T 0 n) hl2 (by omega) (by omega) hsb w2 hc2 HR2.out).mono ?_
  rintro e w3 ⟨r, T3, rfl, hp3, hl3, hr3, ht3⟩
  obtain ⟨T', f, rfl, hl'⟩ := last_of hl3
  have HS3 : Cells w3 sb [x, y, .slice (some ⟨g, 0, none⟩) (n + 1) c] := HS.out.tcs (HT2.out.trans ht3) hsb
  have hm3 := m_pop ⟨sb, 2, none⟩ w3
  have HT3 : Hid (Tcs (fun k => k = g) w0 w3) := HT2.out.trans ht3
  have HP3 : Hid ((f :: T').Perm T) := ((List.perm_append_singleton f T').symm.trans hp3).trans hp2
  clear ht3 HT2 HR2 hc2 hp3 hp2 hc HS
  go_wp2_with fail
  refine (findPop B0 sb g c n x y T' f hl' (by omega) hsb w3 HS3 hr3).mono ?_
  rintro e w4 ⟨rfl, hs4, hr4, ht4⟩
  have HT4 : Hid (Tcs (fun k => k = sb ∨ k = g) w0 w4) := (HT3.out.mono fun _ h => .inr h).trans (ht4.mono fun _ h => .inl h)
  clear hm3 HS3 hr3 ht4
  go_wp2
  go_ret
  first | exact ⟨f, T', rfl, HP3.out, hl', hs4, hr4, HT4.out⟩ | exact ⟨_, _, rfl, HP3.out, hl', hs4, hr4, HT4.out⟩
end Pg
end Go.Proofs.YtinanjjhkddikaaGreat

/- When a program is right, as a plain function. -/
namespace Go.Proofs.YtinanjjhkddikaaGreat
namespace Pg
open Go.ChangeShapes Go.WideShapes Go.ChangeAt Go.RowKit St

def tyB (n t : Int) : Bool := decide (t = -1) || (decide (0 ≤ t) && decide (t < n))
def okMB (n : Int) (m : Meth) : Bool := decide (0 ≤ m.name) && decide (m.name ≤ 19) && decide (m.args.length ≤ 3) && m.args.all (tyB n) && tyB n m.gives && Lay.codeOk m.code
def ownF (c : Cls) (name : Int) : Option Meth := c.meths.find? fun m => decide (m.name = name)
def agree1 (c : Cls) (m : Meth) : Bool := match ownF c m.name with | none => true | some x => decide (x.args = m.args) && decide (x.gives = m.gives)
def agreeF (p : Prg) (m : Meth) : Nat → Int → Bool
  | 0, _ => true
  | f + 1, up => if up < 0 then true else match p[up.toNat]? with | none => true | some c => agree1 c m && agreeF p m f c.super
def okK (p : Prg) (c : Cls) (k : Nat) : Bool := match c.meths[k]? with
  | none => true
  | some m => okMB p.length m && (match k with | 0 => true | j + 1 => match c.meths[j]? with | none => true | some q => decide (q.name < m.name)) && agreeF p m 6 c.super
def okCB (p : Prg) (i : Nat) (c : Cls) : Bool := decide (-1 ≤ c.super) && decide (c.super < (i : Int)) && decide (c.fields.length ≤ 4) && c.fields.all (tyB p.length) && decide (c.meths.length ≤ 4) && (List.range c.meths.length).all (okK p c)
def okAt (p : Prg) (i : Nat) : Bool := match p[i]? with | none => true | some c => okCB p i c
def mainOk (p : Prg) : Bool := match p[0]? with | none => false | some c => match ownF c 0 with | none => false | some m => decide (m.args.length = 0) && decide (m.gives = -1)
def okP (p : Prg) : Bool := decide (1 ≤ p.length) && decide (p.length ≤ 6) && (List.range p.length).all (okAt p) && mainOk p

theorem okP_len {p : Prg} (h : okP p = true) : 1 ≤ p.length ∧ p.length ≤ 6 := by
  unfold okP at h
  simp only [Bool.and_eq_true, decide_eq_true_eq] at h
  exact ⟨h.1.1.1, h.1.1.2⟩
theorem okP_at {p : Prg} (h : okP p = true) {i : Nat} (hi : i < p.length) : okAt p i = true := by
  unfold okP at h
  simp only [Bool.and_eq_true] at h
  exact List.all_eq_true.1 h.1.2 i (List.mem_range.2 hi)
theorem okP_few {p : Prg} (h : p.length < 1) : okP p = false := by simp [okP]; omega
theorem okP_many {p : Prg} (h : 6 < p.length) : okP p = false := by
  cases hh : okP p
  · rfl
  · have := okP_len hh; omega
theorem okP_no {p : Prg} {i : Nat} (hi : i < p.length) (h : okAt p i = false) : okP p = false := by
  cases hh : okP p
  · rfl
  · rw [okP_at hh hi] at h; simp at h
theorem okP_main {p : Prg} (h1 : 1 ≤ p.length) (h2 : p.length ≤ 6) (h : ∀ i, i < p.length → okAt p i = true) : okP p = mainOk p := by
  have : (List.range p.length).all (okAt p) = true := List.all_eq_true.2 fun i hi => h i (List.mem_range.1 hi)
  simp [okP, this, h1, h2]
theorem okAt_of {p : Prg} {i : Nat} {c : Cls} (h : p[i]? = some c) : okAt p i = okCB p i c := by simp [okAt, h]
theorem okC_super {p : Prg} {i : Nat} {c : Cls} (h : okCB p i c = true) : -1 ≤ c.super ∧ c.super < (i : Int) := by
  unfold okCB at h
  simp only [Bool.and_eq_true, decide_eq_true_eq] at h
  exact ⟨h.1.1.1.1.1, h.1.1.1.1.2⟩
theorem okC_few {p : Prg} {i : Nat} {c : Cls} (h : okCB p i c = true) : c.fields.length ≤ 4 ∧ c.meths.length ≤ 4 := by
  unfold okCB at h
  simp only [Bool.and_eq_true, decide_eq_true_eq] at h
  exact ⟨h.1.1.1.2, h.1.2⟩
theorem okC_meth {p : Prg} {i : Nat} {c : Cls} (h : okCB p i c = true) {k : Nat} (hk : k < c.meths.length) : okK p c k = true := by
  unfold okCB at h
  simp only [Bool.and_eq_true] at h
  exact List.all_eq_true.1 h.2 k (List.mem_range.2 hk)
theorem okC_no {p : Prg} {i : Nat} {c : Cls} {k : Nat} (hk : k < c.meths.length) (h : okK p c k = false) : okCB p i c = false := by
  cases hh : okCB p i c
  · rfl
  · rw [okC_meth hh hk] at h; simp at h
/-- All classes before this one have a lesser Super. -/
def SupOk (p : Prg) (n : Nat) : Prop := ∀ j c, j < n → p[j]? = some c → -1 ≤ c.super ∧ c.super < (j : Int)
theorem SupOk.of {p : Prg} {n : Nat} (h : ∀ i, i < n → okAt p i = true) : SupOk p n := fun j c hj hc => okC_super (by rw [← okAt_of hc]; exact h j hj)
theorem agreeF_neg (p : Prg) (m : Meth) (f : Nat) {up : Int} (h : up < 0) : agreeF p m f up = true := by
  cases f with
  | zero => rfl
  | succ f => simp [agreeF, h]
theorem agreeF_fuel {p : Prg} {n : Nat} (hs : SupOk p n) (m : Meth) : ∀ (f g : Nat) (up : Int), up < (n : Int) → up < (f : Int) → up < (g : Int) → agreeF p m f up = agreeF p m g up := by
  intro f
  induction f with
  | zero => intro g up _ h1 _; rw [agreeF_neg _ _ _ (by omega), agreeF_neg _ _ _ (by omega)]
  | succ f ih =>
    intro g up hn h1 h2
    by_cases h0 : up < 0
    · rw [agreeF_neg _ _ _ h0, agreeF_neg _ _ _ h0]
    · cases g with
      | zero => omega
      | succ g =>
        simp only [agreeF, h0, if_false]
        cases hc : p[up.toNat]? with
        | none => rfl
        | some c =>
          have := hs up.toNat c (by omega) hc
          simp only []
          rw [ih g c.super (by omega) (by omega) (by omega)]
/-- One class further up. -/
theorem agreeF_step {p : Prg} {n : Nat} (hs : SupOk p n) (m : Meth) {u : Nat} (hu : u < n) (h6 : u < 6) {c : Cls} (hc : p[u]? = some c) : agreeF p m 6 (u : Int) = (agree1 c m && agreeF p m 6 c.super) := by
  have h0 : ¬ (u : Int) < 0 := by omega
  have := hs u c hu hc
  have e : agreeF p m 5 c.super = agreeF p m 6 c.super := agreeF_fuel hs m 5 6 c.super (by omega) (by omega) (by omega)
  show (if (u : Int) < 0 then true else match p[(u : Int).toNat]? with | none => true | some c => agree1 c m && agreeF p m 5 c.super) = _
  rw [if_neg h0, Int.toNat_natCast, hc]
  simp only []
  rw [e]
theorem find_none {c : Cls} {name : Int} (h : ∀ j, j < c.meths.length → ∀ m, c.meths[j]? = some m → m.name ≠ name) : ownF c name = none := by
  unfold ownF
  rw [List.find?_eq_none]
  intro m hm
  obtain ⟨j, hj, rfl⟩ := List.getElem_of_mem hm
  simpa using h j hj _ (List.getElem?_eq_getElem hj)
theorem find_at {c : Cls} {name : Int} {k : Nat} {m : Meth} (h : ∀ j, j < k → ∀ m, c.meths[j]? = some m → m.name ≠ name) (hk : c.meths[k]? = some m) (hn : m.name = name) : ownF c name = some m := by
  unfold ownF
  rw [List.find?_eq_some_iff_getElem]
  obtain ⟨hlt, hm⟩ := List.getElem?_eq_some_iff.1 hk
  refine ⟨by simpa using hn, k, hlt, hm, fun j hj => ?_⟩
  simpa using h j hj _ (List.getElem?_eq_getElem (by omega))
end Pg
end Go.Proofs.YtinanjjhkddikaaGreat

/- Contracts of the laws' own counting of what there is in a program. -/
namespace Go.Proofs.YtinanjjhkddikaaGreat
namespace Pg
open Go.ChangeShapes Go.WideShapes Go.ChangeAt Go.RowKit St

/-- What is left, or -1. -/
def szR (n : Nat) (left : Int) : Int := if (n : Int) ≤ left then left - n else -1
theorem szR_yes {n : Nat} {left : Int} (h : (n : Int) ≤ left) : szR n left = left - n := if_pos h
theorem szR_no {n : Nat} {left : Int} (h : left < (n : Int)) : szR n left = -1 := if_neg (by omega)
theorem retI {p q : Int} (h : p = q) : Ending.returned (.int .i64 p) = .returned (.int .i64 q) := by rw [h]
/-- No slice is longer than slices can be. -/
def SaneM (m : Meth) : Prop := m.args.length ≤ 9223372036854775807 ∧ m.code.length ≤ 9223372036854775807
def SaneC (c : Cls) : Prop := c.fields.length ≤ 9223372036854775807 ∧ c.meths.length ≤ 9223372036854775807 ∧ ∀ m ∈ c.meths, SaneM m
def SaneP (p : Prg) : Prop := p.length ≤ 9223372036854775807 ∧ ∀ c ∈ p, SaneC c

set_option maxHeartbeats 400000 in
theorem szInts (a : Option Addr) (n cap : Nat) (left : Int) (h0 : 0 ≤ left) (h1 : left ≤ 1048576) (hn : n ≤ 9223372036854775807) (w : World) :
    Calls Tryz.prog 64 #[.slice a n cap, .int .i64 left] w fun e w' => e = .returned (.int .i64 (szR n left)) ∧ w = w' := by
  by_cases h : (n : Int) ≤ left
  · rw [szR_yes h]
    go_enter Tryz.func64, Tryz.ntmps64
    go_wp2
    go_ret
    exact ⟨rfl, rfl⟩
  · have h : left < (n : Int) := by omega
    rw [szR_no h]
    go_enter Tryz.func64, Tryz.ntmps64
    go_wp2
    go_ret
    exact ⟨rfl, rfl⟩
set_option maxHeartbeats 400000 in
theorem szInsns (a : Option Addr) (n cap : Nat) (left : Int) (h0 : 0 ≤ left) (h1 : left ≤ 1048576) (hn : n ≤ 9223372036854775807) (w : World) :
    Calls Tryz.prog 97 #[.slice a n cap, .int .i64 left] w fun e w' => e = .returned (.int .i64 (szR n left)) ∧ w = w' := by
  by_cases h : (n : Int) ≤ left
  · rw [szR_yes h]
    go_enter Tryz.func97, Tryz.ntmps97
    go_wp2
    go_ret
    exact ⟨rfl, rfl⟩
  · have h : left < (n : Int) := by omega
    rw [szR_no h]
    go_enter Tryz.func97, Tryz.ntmps97
    go_wp2
    go_ret
    exact ⟨rfl, rfl⟩

set_option maxHeartbeats 800000 in
theorem szMethod (name gives : Int) (a a' : Option Addr) (n n' cap cap' : Nat) (left : Int) (h0 : 0 ≤ left) (h1 : left ≤ 1048576) (hn : n ≤ 9223372036854775807) (hn' : n' ≤ 9223372036854775807) (w : World) :
    Calls Tryz.prog 83 #[.agg #[.int .i64 name, .slice a n cap, .int .i64 gives, .slice a' n' cap'], .int .i64 left] w fun e w' => e = .returned (.int .i64 (szR (n + n') left)) ∧ Below w.heap.size w w' := by
  by_cases h : (n : Int) ≤ left
  · by_cases h' : (n' : Int) ≤ left - n
    · rw [szR_yes (n := n + n') (by omega)]
      go_enter Tryz.func83, Tryz.ntmps83
      go_wp2_with fail
      refine (szInts a n cap left h0 h1 hn _).mono ?_
      rw [szR_yes h]
      rintro e w1 ⟨rfl, rfl⟩
      go_wp2_with fail
      refine (szInsns a' n' cap' _ (by omega) (by omega) hn' _).mono ?_
      rw [szR_yes h']
      rintro e w1 ⟨rfl, rfl⟩
      go_wp2
      go_ret
      exact ⟨retI (by omega), (Below.refl _ _).alloc (Nat.le_refl _) _⟩
    · rw [szR_no (n := n + n') (by omega)]
      go_enter Tryz.func83, Tryz.ntmps83
      go_wp2_with fail
      refine (szInts a n cap left h0 h1 hn _).mono ?_
      rw [szR_yes h]
      rintro e w1 ⟨rfl, rfl⟩
      go_wp2_with fail
      refine (szInsns a' n' cap' _ (by omega) (by omega) hn' _).mono ?_
      rw [szR_no h']
      rintro e w1 ⟨rfl, rfl⟩
      go_wp2
      go_ret
      exact ⟨rfl, (Below.refl _ _).alloc (Nat.le_refl _) _⟩
  · rw [szR_no (n := n + n') (by omega)]
    go_enter Tryz.func83, Tryz.ntmps83
    go_wp2_with fail
    refine (szInts a n cap left h0 h1 hn _).mono ?_
    rw [szR_no h]
    rintro e w1 ⟨rfl, rfl⟩
    go_wp2
    go_ret
    exact ⟨rfl, (Below.refl _ _).alloc (Nat.le_refl _) _⟩

set_option maxHeartbeats 800000 in
theorem szMethods (K : Way) (B : Nat) (a : Option Addr) (cap : Nat) (ms : List Meth) (left : Int) (h0 : 0 ≤ left) (h1 : left ≤ 1048576) (hn : ms.length ≤ 9223372036854775807) (hs : ∀ m ∈ ms, SaneM m) (w : World) (hm : SM K B w (.slice a ms.length cap) ms) :
    Calls Tryz.prog 65 #[.slice a ms.length cap, .int .i64 left] w fun e w' => e = .returned (.int .i64 (szR (szMs ms) left)) ∧ Below w.heap.size w w' := by
  have HS : Hid (∀ m ∈ ms, SaneM m) := hs
  have HM : Hid (SM K B w (.slice a ms.length cap) ms) := hm
  clear hs hm
  by_cases h : (ms.length : Int) ≤ left
  · go_enter Tryz.func65, Tryz.ntmps65
    go_wp2
    go_loopw [1, 5] (fun lv i wr => ∃ (k : Nat) (lf : Int), k ≤ ms.length ∧ i = .int .i64 k ∧ lv = .int .i64 lf ∧ 0 ≤ lf ∧ lf ≤ 1048576 ∧ Hid (lf = left - ms.length - sumN ((ms.take k).map szM)) ∧ Below w.heap.size w wr) (fun _ i _ => ms.length - (intOf i).toNat)
    case atStart => exact ⟨0, left - ms.length, Nat.zero_le _, rfl, rfl, by omega, by omega, by show _ = _; simp [sumN], Below.refl _ _⟩
    case round =>
      obtain ⟨k, lf, hk, rfl, rfl, hl0, hl1, hlf, hb⟩ := hrel
      by_cases hlt : k < ms.length
      · have hki : (k : Int) < (ms.length : Int) := by omega
        have HT : Hid (sumN ((ms.take (k + 1)).map szM) = sumN ((ms.take k).map szM) + szM ms[k]) := sumN_take_succ szM ms k hlt
        have HL : Hid (sumN ((ms.take (k + 1)).map szM) ≤ sumN (ms.map szM)) := sumN_take_le szM ms (k + 1)
        have hsm := HS.out _ (List.getElem_mem hlt)
        obtain ⟨b, o, rfl, _, va, vc, c0, c1, c2, c3, hmv⟩ := (SM.on HM.out (Keep.of hb)).get hlt
        obtain ⟨aa, ca, rfl⟩ := hmv.1.form
        obtain ⟨ac, cc, rfl⟩ := K.form hmv.2
        generalize ms[k] = m at *
        have hsm1 := hsm.1
        have hsm2 := hsm.2
        clear hsm hmv HM
        go_wp2_with fail
        refine (szMethod m.name m.gives aa ac m.args.length m.code.length ca cc lf hl0 hl1 hsm1 hsm2 _).mono ?_
        rintro e w1 ⟨rfl, hb1⟩
        have hw1 : Below w.heap.size w w1 := below_over hb hb1
        clear hb1 hb c0 c1 c2 c3
        by_cases hq : ((m.args.length + m.code.length : Nat) : Int) ≤ lf
        · rw [szR_yes hq]
          have hq0 : 0 ≤ lf - ((m.args.length + m.code.length : Nat) : Int) := by omega
          go_wp2
          go_roundw
          case rel =>
            refine ⟨k + 1, _, by omega, by go_num, rfl, by omega, by omega, ?_, hw1⟩
            show _ = _
            rw [HT.out, hlf.out]
            have e : szM m = m.args.length + m.code.length := rfl
            omega
          case measure => simp [intOf]; omega
        · have hq : lf < _ := Int.not_le.1 hq
          rw [szR_no hq]
          have HN : Hid (szR (szMs ms) left = -1) := by
            show _ = _
            apply szR_no
            have h1 := HT.out
            have h2 := HL.out
            have h3 := hlf.out
            have e : szM m = m.args.length + m.code.length := rfl
            unfold szMs
            omega
          go_wp2
          go_ret
          exact ⟨retI HN.out.symm, hw1⟩
      · have HN : Hid (szR (szMs ms) left = lf) := by
          show _ = _
          have e : ms.take k = ms := List.take_of_length_le (by omega)
          have h3 := hlf.out
          rw [e] at h3
          rw [szR_yes (by unfold szMs; omega)]
          unfold szMs
          omega
        go_wp2
        go_ret
        exact ⟨retI HN.out.symm, hb⟩
  · rw [szR_no (n := szMs ms) (by unfold szMs; omega)]
    go_enter Tryz.func65, Tryz.ntmps65
    go_wp2
    go_ret
    exact ⟨rfl, Below.refl _ _⟩

set_option maxHeartbeats 800000 in
theorem szClass (K : Way) (B : Nat) (super : Int) (a a' : Option Addr) (cap cap' : Nat) (c : Cls) (left : Int) (h0 : 0 ≤ left) (h1 : left ≤ 1048576) (hs : SaneC c) (w : World) (hm : SM K B w (.slice a' c.meths.length cap') c.meths) :
    Calls Tryz.prog 39 #[.agg #[.int .i64 super, .slice a c.fields.length cap, .slice a' c.meths.length cap'], .int .i64 left] w fun e w' => e = .returned (.int .i64 (szR (szC c) left)) ∧ Below w.heap.size w w' := by
  have HM : Hid (SM K B w (.slice a' c.meths.length cap') c.meths) := hm
  have hs1 := hs.1
  have hs2 := hs.2.1
  have HS3 : Hid (∀ m ∈ c.meths, SaneM m) := hs.2.2
  clear hm hs
  by_cases h : (c.fields.length : Int) ≤ left
  · by_cases h' : (szMs c.meths : Int) ≤ left - c.fields.length
    · rw [szR_yes (n := szC c) (by unfold szC; omega)]
      go_enter Tryz.func39, Tryz.ntmps39
      go_wp2_with fail
      refine (szInts a _ cap left h0 h1 hs1 _).mono ?_
      rw [szR_yes h]
      rintro e w1 ⟨rfl, rfl⟩
      go_wp2_with fail
      refine (szMethods K B a' cap' c.meths _ (by omega) (by omega) hs2 HS3.out _ (SM.on HM.out (Keep.of ((Below.refl _ _).alloc (Nat.le_refl _) _)))).mono ?_
      rw [szR_yes h']
      rintro e w1 ⟨rfl, hb1⟩
      have hw1 : Below w.heap.size w w1 := below_over ((Below.refl _ _).alloc (Nat.le_refl _) _) hb1
      clear hb1
      go_wp2
      go_ret
      exact ⟨retI (by unfold szC; omega), hw1⟩
    · rw [szR_no (n := szC c) (by unfold szC; omega)]
      go_enter Tryz.func39, Tryz.ntmps39
      go_wp2_with fail
      refine (szInts a _ cap left h0 h1 hs1 _).mono ?_
      rw [szR_yes h]
      rintro e w1 ⟨rfl, rfl⟩
      go_wp2_with fail
      refine (szMethods K B a' cap' c.meths _ (by omega) (by omega) hs2 HS3.out _ (SM.on HM.out (Keep.of ((Below.refl _ _).alloc (Nat.le_refl _) _)))).mono ?_
      rw [szR_no h']
      rintro e w1 ⟨rfl, hb1⟩
      have hw1 : Below w.heap.size w w1 := below_over ((Below.refl _ _).alloc (Nat.le_refl _) _) hb1
      clear hb1
      go_wp2
      go_ret
      exact ⟨rfl, hw1⟩
  · rw [szR_no (n := szC c) (by unfold szC; omega)]
    go_enter Tryz.func39, Tryz.ntmps39
    go_wp2_with fail
    refine (szInts a _ cap left h0 h1 hs1 _).mono ?_
    rw [szR_no h]
    rintro e w1 ⟨rfl, rfl⟩
    go_wp2
    go_ret
    exact ⟨rfl, (Below.refl _ _).alloc (Nat.le_refl _) _⟩

set_option maxHeartbeats 800000 in
theorem szClasses (K : Way) (B : Nat) (a : Option Addr) (cap : Nat) (p : Prg) (left : Int) (h0 : 0 ≤ left) (h1 : left ≤ 1048576) (hs : SaneP p) (w : World) (hm : SK K B w (.slice a p.length cap) p) :
    Calls Tryz.prog 23 #[.slice a p.length cap, .int .i64 left] w fun e w' => e = .returned (.int .i64 (szR (szP p) left)) ∧ Below w.heap.size w w' := by
  have hn := hs.1
  have HS : Hid (∀ m ∈ p, SaneC m) := hs.2
  have HM : Hid (SK K B w (.slice a p.length cap) p) := hm
  clear hs hm
  by_cases h : (p.length : Int) ≤ left
  · go_enter Tryz.func23, Tryz.ntmps23
    go_wp2
    go_loopw [1, 5] (fun lv i wr => ∃ (k : Nat) (lf : Int), k ≤ p.length ∧ i = .int .i64 k ∧ lv = .int .i64 lf ∧ 0 ≤ lf ∧ lf ≤ 1048576 ∧ Hid (lf = left - p.length - sumN ((p.take k).map szC)) ∧ Below w.heap.size w wr) (fun _ i _ => p.length - (intOf i).toNat)
    case atStart => exact ⟨0, left - p.length, Nat.zero_le _, rfl, rfl, by omega, by omega, by show _ = _; simp [sumN], Below.refl _ _⟩
    case round =>
      obtain ⟨k, lf, hk, rfl, rfl, hl0, hl1, hlf, hb⟩ := hrel
      by_cases hlt : k < p.length
      · have hki : (k : Int) < (p.length : Int) := by omega
        have HT : Hid (sumN ((p.take (k + 1)).map szC) = sumN ((p.take k).map szC) + szC p[k]) := sumN_take_succ szC p k hlt
        have HL : Hid (sumN ((p.take (k + 1)).map szC) ≤ sumN (p.map szC)) := sumN_take_le szC p (k + 1)
        have HSM : Hid (SaneC p[k]) := HS.out _ (List.getElem_mem hlt)
        obtain ⟨b, o, rfl, _, vf, vm, c0, c1, c2, hcv⟩ := (SK.on HM.out (Keep.of hb)).get hlt
        obtain ⟨aa, ca, rfl⟩ := hcv.1.form
        obtain ⟨ac, cc, rfl⟩ := hcv.2.form
        have HCV : Hid (SM K B wr (.slice ac p[k].meths.length cc) p[k].meths) := hcv.2
        generalize p[k] = c at *
        clear hcv HM
        go_wp2_with fail
        refine (szClass K B c.super aa ac ca cc c lf hl0 hl1 HSM.out _ HCV.out).mono ?_
        rintro e w1 ⟨rfl, hb1⟩
        have hw1 : Below w.heap.size w w1 := below_over hb hb1
        clear hb1 hb c0 c1 c2 HCV
        by_cases hq : (szC c : Int) ≤ lf
        · rw [szR_yes hq]
          have hq0 : 0 ≤ lf - (szC c : Int) := by omega
          go_wp2
          go_roundw
          case rel =>
            refine ⟨k + 1, _, by omega, by go_num, rfl, by omega, by omega, ?_, hw1⟩
            show _ = _
            rw [HT.out, hlf.out]
            omega
          case measure => simp [intOf]; omega
        · have hq : lf < _ := Int.not_le.1 hq
          rw [szR_no hq]
          have HN : Hid (szR (szP p) left = -1) := by
            show _ = _
            apply szR_no
            have h1 := HT.out
            have h2 := HL.out
            have h3 := hlf.out
            unfold szP
            omega
          go_wp2
          go_ret
          exact ⟨retI HN.out.symm, hw1⟩
      · have HN : Hid (szR (szP p) left = lf) := by
          show _ = _
          have e : p.take k = p := List.take_of_length_le (by omega)
          have h3 := hlf.out
          rw [e] at h3
          rw [szR_yes (by unfold szP; omega)]
          unfold szP
          omega
        go_wp2
        go_ret
        exact ⟨retI HN.out.symm, hb⟩
  · rw [szR_no (n := szP p) (by unfold szP; omega)]
    go_enter Tryz.func23, Tryz.ntmps23
    go_wp2
    go_ret
    exact ⟨rfl, Below.refl _ _⟩

set_option maxHeartbeats 800000 in
theorem szProgram (K : Way) (B : Nat) (a : Option Addr) (cap : Nat) (p : Prg) (hs : SaneP p) (w : World) (hm : SK K B w (.slice a p.length cap) p) :
    Calls Tryz.prog 7 #[.agg #[.slice a p.length cap], .int .i64 1048576] w fun e w' => e = .returned (.int .i64 (szR (szP p) 1048576)) ∧ Below w.heap.size w w' := by
  have HM : Hid (SK K B w (.slice a p.length cap) p) := hm
  have HS : Hid (SaneP p) := hs
  clear hm hs
  go_enter Tryz.func7, Tryz.ntmps7
  go_wp2_with fail
  refine (szClasses K B a cap p _ (by omega) (by omega) HS.out _ (SK.on HM.out (Keep.of ((Below.refl _ _).alloc (Nat.le_refl _) _)))).mono ?_
  rintro e w1 ⟨rfl, hb1⟩
  have hw1 : Below w.heap.size w w1 := below_over ((Below.refl _ _).alloc (Nat.le_refl _) _) hb1
  clear hb1
  by_cases h : (szP p : Int) ≤ 1048576
  · have e := szR_yes h
    rw [e]
    have HE : Hid (szR (szP p) 1048576 = 1048576 - (szP p : Int)) := e
    clear e
    go_wp2
    go_ret
    exact ⟨retI HE.out.symm, hw1⟩
  · have e := szR_no (Int.not_le.1 h)
    rw [e]
    have HE : Hid (szR (szP p) 1048576 = -1) := e
    clear e
    go_wp2
    go_ret
    exact ⟨retI HE.out.symm, hw1⟩
end Pg
end Go.Proofs.YtinanjjhkddikaaGreat
