/- The draws of a program and numbers out of bytes. -/
import Derived.Test.YtbgbddahniacbaaGreatDoorJDq4
import Derived.Test.YtbgbddahniacbaaGreatDoorJStep1
import Derived.Laws.IdiomStrings
namespace Go.Proofs.YtbgbddahniacbaaGreatDoor
namespace Pg
open Go.ChangeShapes Go.WideShapes Go.ChangeAt Go.RowKit St

/-- A program, whole at a world, made since another. -/
structure PN (w : World) (g cp : Nat) (p : Prg) (w' : World) : Prop where
  len : p.length ≤ 4
  small : SmallP p
  sk : SK front w.heap.size w' (.slice (some ⟨g, 0, none⟩) p.length cp) p
  below : Below w.heap.size w w'
/-- The same, with the result's box still to be filled. -/
structure PB (w : World) (g cp : Nat) (p : Prg) (u : World) : Prop where
  len : p.length ≤ 4
  small : SmallP p
  sk : SK front (w.heap.size + 1) u (.slice (some ⟨g, 0, none⟩) p.length cp) p
  below : Below w.heap.size w u
  box : Cells u w.heap.size [.slice none 0 0]
theorem PB.pn {w u : World} {g cp : Nat} {p : Prg} (h : PB w g cp p u) (v : Value) : PN w g cp p (u.setCell ⟨w.heap.size, 0, none⟩ v) :=
  ⟨h.len, h.small, SK.weak (SK.on h.sk ⟨by simp, fun k h1 h2 => Below.heap_setCell u ⟨w.heap.size, 0, none⟩ _ k (fun e => by have : k = w.heap.size := e; omega)⟩) (by omega), h.below.setCell (p := ⟨w.heap.size, 0, none⟩) (Nat.le_refl _) v⟩
theorem PB.of {B : Nat} {w w1 w2 w3 : World} {c : Nat} {a : Option Addr} {len cap g cp : Nat} {p : Prg} (hb : Below (w.alloc (.cells #[.slice none 0 0] 26)).heap.size (w.alloc (.cells #[.slice none 0 0] 26)) w1) (hc : (w.alloc (.cells #[.slice none 0 0] 26)).heap.size ≤ c) (hcw : c < w1.heap.size) (hl : p.length ≤ 4) (hs : SmallP p) (hk : SK front w1.heap.size w2 (.slice (some ⟨g, 0, none⟩) p.length cp) p) (h1 : Cu.At B w1 w2 c a len cap) (h2 : Cu.At B w2 w3 c a len cap) : PB w g cp p w3 := by
  have hz := hb.size
  simp only [World.size_alloc] at hz hc hb
  have h3 := h1.step h2
  refine ⟨hl, hs, SK.weak (SK.on hk ⟨h2.1.size, fun k a b => h2.1.block k b (by omega)⟩) (by omega), h3.below (((Below.refl w.heap.size w).alloc (Nat.le_refl _) _).trans (hb.mono (by omega))) (by omega), ?_⟩
  have c0 : Cells (w.alloc (.cells #[.slice none 0 0] 26)) w.heap.size [.slice none 0 0] := Cells.new w _ rfl _ _
  exact Cu.cells_touch (cells_move c0 (hb.block _ (by omega))) h3.1 (by omega)
theorem PB.up {w w1 : World} {g cp : Nat} {p : Prg} (h : PN (w.alloc (.cells #[.slice none 0 0] 26)) g cp p w1) : PB w g cp p w1 := by
  have hz := h.below.size
  have hb := h.below
  have hk := h.sk
  simp only [World.size_alloc] at hz hb hk
  have c0 : Cells (w.alloc (.cells #[.slice none 0 0] 26)) w.heap.size [.slice none 0 0] := Cells.new w _ rfl _ _
  exact ⟨h.len, h.small, hk, ((Below.refl w.heap.size w).alloc (Nat.le_refl _) _).trans (hb.mono (by omega)), cells_move c0 (hb.block _ (by omega))⟩
def DrewN2 (f : Nat) : Prop := ∀ (B : Nat) (w : World) (a : Option Addr) (len cap : Nat), Cu.Bytes B w a len → B ≤ w.heap.size →
  Calls Tryz.prog f #[.slice a len cap] w fun e w' => ∃ g cp p x y, e = .returned (.tuple #[.agg #[.slice (some ⟨g, 0, none⟩) (List.length p) cp], .int .i64 x, .int .i64 y]) ∧ PN w g cp p w'
def DrewN1 (f : Nat) : Prop := ∀ (B : Nat) (w : World) (a : Option Addr) (len cap : Nat), Cu.Bytes B w a len → B ≤ w.heap.size →
  Calls Tryz.prog f #[.slice a len cap] w fun e w' => ∃ g cp p x, e = .returned (.tuple #[.agg #[.slice (some ⟨g, 0, none⟩) (List.length p) cp], .int .i64 x]) ∧ PN w g cp p w'
set_option maxHeartbeats 800000 in
theorem drawMethodOf_at : DrewN2 7 := by
  intro B w a len cap hB hs
  have HB0 : Hid (Cu.Bytes B (w.alloc (.cells #[.slice none 0 0] 26)) a len) := hB.below ((Below.refl B w).alloc hs _)
  clear hB
  go_enter Tryz.func7, Tryz.ntmps7
  go_wp2_with fail
  refine (Cu.new_at B _ a len cap HB0.out (by simp; omega)).mono ?_
  rintro e w1 ⟨c, rfl, hc, hb1, h1⟩
  have hcw1 : c < w1.heap.size := h1.2.1
  have H1 : Hid (Cu.Cur B w1 c a len cap) := h1
  have HB1 : Hid (Below (w.alloc (.cells #[.slice none 0 0] 26)).heap.size (w.alloc (.cells #[.slice none 0 0] 26)) w1) := hb1
  have HC1 : Hid ((w.alloc (.cells #[.slice none 0 0] 26)).heap.size ≤ c) := hc
  clear h1 HB0 hb1 hc
  go_wp2_with fail
  refine (drawAny_cur B c _ a len cap H1.out).mono ?_
  rintro e w2 ⟨g, cp, p, rfl, hl, hsm, hsk, h2⟩
  have HSM : Hid (SmallP p) := hsm
  have HSK : Hid (SK front w1.heap.size (w2.alloc (.cells #[.slice (some ⟨g, 0, none⟩) p.length cp] 26)) (.slice (some ⟨g, 0, none⟩) p.length cp) p) := SK.on hsk (Keep.of ((Below.refl _ _).alloc (Nat.le_refl _) _))
  have H2 : Hid (Cu.At B w1 (w2.alloc (.cells #[.slice (some ⟨g, 0, none⟩) p.length cp] 26)) c a len cap) := h2.alloc _
  have HPB : Hid (Cells (w2.alloc (.cells #[.slice (some ⟨g, 0, none⟩) p.length cp] 26)) w2.heap.size [(.slice (some ⟨g, 0, none⟩) p.length cp)]) := Cells.new w2 _ rfl _ _
  have hcz : c < w2.heap.size := Nat.lt_of_lt_of_le hcw1 h2.1.size
  clear hsm hsk h2 H1
  go_wp2_with fail
  refine (from_at B c (w2.alloc (.cells #[.slice (some ⟨g, 0, none⟩) p.length cp] 26)) _ a len cap (-1) 6 (by omega) (by omega) (by omega) (by omega) (Cu.At.start H2.out.2)).mono ?_
  rintro e w3 ⟨x, rfl, _, _, _, h3⟩
  have H3 : Hid (Cu.At B (w2.alloc (.cells #[.slice (some ⟨g, 0, none⟩) p.length cp] 26)) w3 c a len cap) := h3
  clear h3
  have p3 := (Cu.cells_touch HPB.out H3.out.1 (by omega)).g0.1
  go_wp2_with fail
  go_region_law (go_simp; go_at_call 22; refine (from_at B c (w2.alloc (.cells #[.slice (some ⟨g, 0, none⟩) p.length cp] 26)) _ a len cap (-1) 4 (by omega) (by omega) (by omega) (by omega) ⟨H3.out.1.drew, H3.out.2⟩).mono ?_; rintro e w4 ⟨y, rfl, _, _, _, h4⟩; have HP : Hid (PB w g cp p w4) := PB.of HB1.out HC1.out hcw1 hl HSM.out HSK.out H2.out h4; have p0 := (Cu.cells_touch HPB.out h4.1 (by omega)).g0.1; obtain ⟨r0, q0⟩ := HP.out.box.g0; have e0 := (HP.out.box.s0 (.slice (some ⟨g, 0, none⟩) p.length cp)).g0.1; have HEN : Hid (PN w g cp p (w4.setCell ⟨w.heap.size, 0, none⟩ (.slice (some ⟨g, 0, none⟩) p.length cp))) := HP.out.pn (.slice (some ⟨g, 0, none⟩) p.length cp); dsimp only)
  all_goals
    go_wp2
    refine bodyPost_ret (v := .tuple #[.agg #[.slice (some ⟨g, 0, none⟩) p.length cp], .int .i64 x, .int .i64 y]) (by simp [results, Tryz.results7, go_sem, e0]) rfl ?_
    exact ⟨g, cp, p, x, y, rfl, HEN.out⟩
set_option maxHeartbeats 800000 in
theorem drawFieldsOf_at : DrewN1 5 := by
  intro B w a len cap hB hs
  have HB0 : Hid (Cu.Bytes B (w.alloc (.cells #[.slice none 0 0] 26)) a len) := hB.below ((Below.refl B w).alloc hs _)
  clear hB
  go_enter Tryz.func5, Tryz.ntmps5
  go_wp2_with fail
  refine (Cu.new_at B _ a len cap HB0.out (by simp; omega)).mono ?_
  rintro e w1 ⟨c, rfl, hc, hb1, h1⟩
  have hcw1 : c < w1.heap.size := h1.2.1
  have H1 : Hid (Cu.Cur B w1 c a len cap) := h1
  have HB1 : Hid (Below (w.alloc (.cells #[.slice none 0 0] 26)).heap.size (w.alloc (.cells #[.slice none 0 0] 26)) w1) := hb1
  have HC1 : Hid ((w.alloc (.cells #[.slice none 0 0] 26)).heap.size ≤ c) := hc
  clear h1 HB0 hb1 hc
  go_wp2_with fail
  refine (drawAny_cur B c _ a len cap H1.out).mono ?_
  rintro e w2 ⟨g, cp, p, rfl, hl, hsm, hsk, h2⟩
  have HSM : Hid (SmallP p) := hsm
  have HSK : Hid (SK front w1.heap.size (w2.alloc (.cells #[.slice (some ⟨g, 0, none⟩) p.length cp] 26)) (.slice (some ⟨g, 0, none⟩) p.length cp) p) := SK.on hsk (Keep.of ((Below.refl _ _).alloc (Nat.le_refl _) _))
  have H2 : Hid (Cu.At B w1 (w2.alloc (.cells #[.slice (some ⟨g, 0, none⟩) p.length cp] 26)) c a len cap) := h2.alloc _
  have HPB : Hid (Cells (w2.alloc (.cells #[.slice (some ⟨g, 0, none⟩) p.length cp] 26)) w2.heap.size [(.slice (some ⟨g, 0, none⟩) p.length cp)]) := Cells.new w2 _ rfl _ _
  have hcz : c < w2.heap.size := Nat.lt_of_lt_of_le hcw1 h2.1.size
  clear hsm hsk h2 H1
  have p3 := HPB.out.g0.1
  go_wp2_with fail
  go_region_law (go_simp; go_at_call 22; refine (from_at B c (w2.alloc (.cells #[.slice (some ⟨g, 0, none⟩) p.length cp] 26)) _ a len cap (-1) 6 (by omega) (by omega) (by omega) (by omega) ⟨(Cu.Touch.refl _ _).drew, H2.out.2⟩).mono ?_; rintro e w3 ⟨x, rfl, _, _, _, h4⟩; have HP : Hid (PB w g cp p w3) := PB.of HB1.out HC1.out hcw1 hl HSM.out HSK.out H2.out h4; have p0 := (Cu.cells_touch HPB.out h4.1 (by omega)).g0.1; obtain ⟨r0, q0⟩ := HP.out.box.g0; have e0 := (HP.out.box.s0 (.slice (some ⟨g, 0, none⟩) p.length cp)).g0.1; have HEN : Hid (PN w g cp p (w3.setCell ⟨w.heap.size, 0, none⟩ (.slice (some ⟨g, 0, none⟩) p.length cp))) := HP.out.pn (.slice (some ⟨g, 0, none⟩) p.length cp); dsimp only)
  all_goals
    go_wp2
    refine bodyPost_ret (v := .tuple #[.agg #[.slice (some ⟨g, 0, none⟩) p.length cp], .int .i64 x]) (by simp [results, Tryz.results5, go_sem, e0]) rfl ?_
    exact ⟨g, cp, p, x, rfl, HEN.out⟩
end Pg
end Go.Proofs.YtbgbddahniacbaaGreatDoor

/- The contract of the other side's numeral. -/
namespace Go.Proofs.YtbgbddahniacbaaGreatDoor
namespace St
open Go.ChangeShapes Go.WideShapes Go.ChangeAt Go.RowKit

theorem mk_app (l m : List UInt8) : (⟨l.toArray⟩ : ByteArray) ++ ⟨m.toArray⟩ = ⟨(l ++ m).toArray⟩ := by
  apply ByteArray.ext; simp
theorem mk_size (l : List UInt8) : (⟨l.toArray⟩ : ByteArray).size = l.length := by simp [ByteArray.size]

def Dn (n m : Int) (l : List UInt8) : Prop :=
  -9223372036854775808 ≤ m ∧ m ≤ 9223372036854775807 ∧ ((l = [] ∧ m = n) ∨ (l ≠ [] ∧ (0 ≤ n → 0 ≤ m) ∧ (n < 0 → m ≤ 0) ∧ Lib.decDigits n.natAbs = (if m = 0 then [] else Lib.decDigits m.natAbs) ++ l))

theorem tm_pos (m : Int) (h : 0 ≤ m) : m.tmod 10 = m % 10 ∧ m.tdiv 10 = m / 10 :=
  ⟨Int.tmod_eq_emod_of_nonneg h, Int.tdiv_eq_ediv_of_nonneg h⟩
theorem tm_neg (m : Int) (h : m ≤ 0) : m.tmod 10 = -((-m) % 10) ∧ m.tdiv 10 = -((-m) / 10) := by
  have e : m = -(-m) := by omega
  refine ⟨?_, ?_⟩
  · conv => lhs; rw [e]
    rw [Int.neg_tmod, Int.tmod_eq_emod_of_nonneg (by omega)]
  · conv => lhs; rw [e]
    rw [Int.neg_tdiv, Int.tdiv_eq_ediv_of_nonneg (by omega)]

def emp : Value → Nat
  | .string s => if s.data.toList = [] then 1 else 0
  | _ => 0

theorem dn_step {n m d : Int} {l : List UInt8} (h : Dn n m l) (hgo : l = [] ∨ m ≠ 0) (hd : d = (m.natAbs % 10 : Nat)) :
    Dn n (m.tdiv 10) (UInt8.ofNat (48 + d).toNat :: l) := by
  obtain ⟨h0, h1, h⟩ := h
  have hq : (m.tdiv 10).natAbs = m.natAbs / 10 ∧ (0 ≤ m → 0 ≤ m.tdiv 10) ∧ (m ≤ 0 → m.tdiv 10 ≤ 0) ∧ -9223372036854775808 ≤ m.tdiv 10 ∧ m.tdiv 10 ≤ 9223372036854775807 := by
    rcases Int.le_total 0 m with hm | hm
    · rw [(tm_pos m hm).2]; omega
    · rw [(tm_neg m hm).2]; omega
  have hdd : (48 + d).toNat = 48 + m.natAbs % 10 := by omega
  have key : Lib.decDigits m.natAbs = (if m.tdiv 10 = 0 then [] else Lib.decDigits (m.tdiv 10).natAbs) ++ [UInt8.ofNat (48 + d).toNat] := by
    rw [hdd, hq.1]
    by_cases hs : m.natAbs < 10
    · rw [if_pos (by omega), Tx.dec_small hs, Nat.mod_eq_of_lt hs]; rfl
    · rw [if_neg (by omega), Tx.dec_big hs]
  refine ⟨hq.2.2.2.1, hq.2.2.2.2, Or.inr ⟨by simp, ?_, ?_, ?_⟩⟩
  · intro hn
    rcases h with ⟨_, rfl⟩ | ⟨_, h2, _, _⟩
    · exact hq.2.1 hn
    · exact hq.2.1 (h2 hn)
  · intro hn
    rcases h with ⟨_, rfl⟩ | ⟨_, _, h3, _⟩
    · exact hq.2.2.1 (by omega)
    · exact hq.2.2.1 (h3 hn)
  · rcases h with ⟨rfl, rfl⟩ | ⟨hl, _, _, h4⟩
    · rw [key]
    · have hm : m ≠ 0 := by exact hgo.resolve_left hl
      rw [h4, if_neg hm, key]; simp

theorem dn_end {n : Int} {l : List UInt8} (h : Dn n 0 l) (hl : l ≠ []) : Lib.decDigits n.natAbs = l := by
  obtain ⟨_, _, h | h⟩ := h
  · exact absurd h.1 hl
  · rw [h.2.2.2]; rfl

theorem conv_one (wr : World) (c : Int) (t : TypeId) (h0 : 0 ≤ c) (h1 : c ≤ 255) :
    (convert 22 9 (.slice (some ⟨wr.heap.size, 0, none⟩) 1 1)).run Tryz.prog (wr.alloc (.cells #[.int .u8 c] t)) = .ok (.string ⟨#[UInt8.ofNat c.toNat]⟩) (wr.alloc (.cells #[.int .u8 c] t)) := by
  have hc : ∀ j (hj : j < [UInt8.ofNat c.toNat].length), (wr.alloc (.cells #[.int .u8 c] t)).cell? ((⟨wr.heap.size, 0, none⟩ : Addr).add j) = some (.int .u8 ([UInt8.ofNat c.toNat][j].toNat : Int)) := by
    intro j hj
    have hj0 : j = 0 := by simpa using hj
    subst hj0
    simp [Addr.add]; omega
  exact run_convert_bytes_back (P := Tryz.prog) (wr.alloc (.cells #[.int .u8 c] t)) 22 9 5 ⟨wr.heap.size, 0, none⟩ 1 [UInt8.ofNat c.toNat] Tryz.underlying22 Tryz.underlying5 Tryz.underlying9 hc

theorem dn_len {n m : Int} {l : List UInt8} (h0 : -9223372036854775808 ≤ n) (h1 : n ≤ 9223372036854775807) (h : Dn n m l) : l.length ≤ 19 := by
  obtain ⟨_, _, h | h⟩ := h
  · rw [h.1]; simp
  · have hl := Tx.dec_len n.natAbs 18 (by omega)
    rw [h.2.2.2, List.length_append] at hl; omega

theorem cons_str (c : UInt8) (s : ByteArray) : ((⟨#[c]⟩ : ByteArray) ++ s).data.toList = c :: s.data.toList := by simp
theorem str_eq {s t : ByteArray} (h : s.data.toList = t.data.toList) : s = t := by
  cases s; cases t; congr; exact Array.toList_inj.1 h
theorem neg_str {n : Int} {s : ByteArray} (hn : n < 0) (h : Lib.decDigits n.natAbs = s.data.toList) : (⟨#[45]⟩ : ByteArray) ++ s = ⟨(Lib.itoa n).toArray⟩ := by
  apply str_eq
  rw [cons_str, ← h]; simp [Lib.itoa, hn]
theorem pos_str {n : Int} {s : ByteArray} (hn : ¬ n < 0) (h : Lib.decDigits n.natAbs = s.data.toList) : s = ⟨(Lib.itoa n).toArray⟩ := by
  apply str_eq
  rw [← h]; simp only [Lib.itoa, if_neg hn]
  have e : n.natAbs = n.toNat := by omega
  rw [e]
theorem emp_cons (c : UInt8) (s : ByteArray) : emp (.string ((⟨#[c]⟩ : ByteArray) ++ s)) = 0 := by
  show (if ((⟨#[c]⟩ : ByteArray) ++ s).data.toList = [] then 1 else 0) = 0
  rw [if_neg (by rw [cons_str]; simp)]
theorem emp_yes {s : ByteArray} (h : s.data.toList = []) : emp (.string s) = 1 := by
  show (if s.data.toList = [] then 1 else 0) = 1
  rw [if_pos h]
theorem emp_no {s : ByteArray} (h : s.data.toList ≠ []) : emp (.string s) = 0 := by
  show (if s.data.toList = [] then 1 else 0) = 0
  rw [if_neg h]
theorem isEmpty_data (s : ByteArray) : s.toList.isEmpty = s.data.toList.isEmpty := by rw [Lib.toList_data]
theorem tmod_abs (m : Int) : (m.tmod 10 < 0 → -m.tmod 10 = ((m.natAbs % 10 : Nat) : Int)) ∧ (¬ m.tmod 10 < 0 → m.tmod 10 = ((m.natAbs % 10 : Nat) : Int)) := by
  rcases Int.le_total 0 m with hm | hm
  · rw [(tm_pos m hm).1]; omega
  · rw [(tm_neg m hm).1]; omega
theorem tdiv_abs (m : Int) : (m.tdiv 10).natAbs = m.natAbs / 10 ∧ -9223372036854775808 ≤ m.tdiv 10 + 9223372036854775808 + m.natAbs ∧ (-9223372036854775808 ≤ m → m ≤ 9223372036854775807 → -9223372036854775808 ≤ m.tdiv 10 ∧ m.tdiv 10 ≤ 9223372036854775807) := by
  rcases Int.le_total 0 m with hm | hm
  · rw [(tm_pos m hm).2]; omega
  · rw [(tm_neg m hm).2]; omega

set_option maxRecDepth 100000 in
theorem int_at (n : Int) (h0 : -9223372036854775808 ≤ n) (h1 : n ≤ 9223372036854775807) (w : World) :
    Calls Tryz.prog 55 #[.int .i64 n] w fun e w' => e = .returned (.string ⟨(Lib.itoa n).toArray⟩) ∧ Below w.heap.size w w' := by
  by_cases hn : n < 0
  · go_enter Tryz.func55, Tryz.ntmps55
    go_wp2
    go_loopw [0, 3] (fun nv sv wr => ∃ (s : ByteArray) (m : Int), nv = .int .i64 m ∧ sv = .string s ∧ Below w.heap.size w wr ∧ Dn n m s.data.toList) (fun nv sv _ => (intOf nv).natAbs + emp sv)
    case atStart => exact ⟨⟨#[]⟩, n, rfl, rfl, Below.refl _ _, h0, h1, Or.inl ⟨rfl, rfl⟩⟩
    case round =>
      obtain ⟨s, m, rfl, rfl, hb, hd⟩ := hrel
      have hm0 := hd.1
      have hm1 := hd.2.1
      have hlen : s.size ≤ 19 := by have := dn_len h0 h1 hd; simpa using this
      have HD : Hid (Dn n m s.data.toList) := hd
      clear hd
      have hbd : -10 < m.tmod 10 ∧ m.tmod 10 < 10 := by
        rcases Int.le_total 0 m with hm | hm
        · rw [(tm_pos m hm).1]; omega
        · rw [(tm_neg m hm).1]; omega
      have hbd1 := hbd.1
      have hbd2 := hbd.2
      have hq0 := ((tdiv_abs m).2.2 hm0 hm1).1
      have hq1 := ((tdiv_abs m).2.2 hm0 hm1).2
      clear hbd
      by_cases he : s.toList.isEmpty = true
      · have HE : Hid (s.data.toList = []) := by rw [isEmpty_data] at he; exact List.isEmpty_iff.1 he
        by_cases ht : m.tmod 10 < 0
        · have hcv := fun t => conv_one wr (48 + -m.tmod 10) t (by omega) (by omega)
          go_wp2
          go_roundw
          case rel => exact ⟨_, m.tdiv 10, by go_num, rfl, hb.alloc (by have := hb.size; omega) _, by rw [cons_str]; exact dn_step HD.out (Or.inl HE.out) ((tmod_abs m).1 ht)⟩
          case measure =>
            have := (tdiv_abs m).1
            rw [emp_cons, emp_yes HE.out]; show (m.tdiv 10).natAbs + 0 < m.natAbs + 1; omega
        · have hcv := fun t => conv_one wr (48 + m.tmod 10) t (by omega) (by omega)
          go_wp2
          go_roundw
          case rel => exact ⟨_, m.tdiv 10, by go_num, rfl, hb.alloc (by have := hb.size; omega) _, by rw [cons_str]; exact dn_step HD.out (Or.inl HE.out) ((tmod_abs m).2 ht)⟩
          case measure =>
            have := (tdiv_abs m).1
            rw [emp_cons, emp_yes HE.out]; show (m.tdiv 10).natAbs + 0 < m.natAbs + 1; omega
      · have HE : Hid (s.data.toList ≠ []) := by rw [isEmpty_data] at he; exact fun e => he (by rw [e]; rfl)
        have he' : s.toList.isEmpty = false := by simpa using he
        clear he
        by_cases hm : m = 0
        · subst hm
          clear hbd1 hbd2 hq0 hq1 hm0 hm1
          go_wp2
          go_ret
          refine ⟨?_, hb⟩
          have e := dn_end HD.out HE.out
          exact congrArg (fun x => Ending.returned (.string x)) (neg_str hn e)
        · by_cases ht : m.tmod 10 < 0
          · have hcv := fun t => conv_one wr (48 + -m.tmod 10) t (by omega) (by omega)
            go_wp2
            go_roundw
            case rel => exact ⟨_, m.tdiv 10, by go_num, rfl, hb.alloc (by have := hb.size; omega) _, by rw [cons_str]; exact dn_step HD.out (Or.inr hm) ((tmod_abs m).1 ht)⟩
            case measure =>
              have := (tdiv_abs m).1
              rw [emp_cons, emp_no HE.out]; show (m.tdiv 10).natAbs + 0 < m.natAbs + 0; omega
          · have hcv := fun t => conv_one wr (48 + m.tmod 10) t (by omega) (by omega)
            go_wp2
            go_roundw
            case rel => exact ⟨_, m.tdiv 10, by go_num, rfl, hb.alloc (by have := hb.size; omega) _, by rw [cons_str]; exact dn_step HD.out (Or.inr hm) ((tmod_abs m).2 ht)⟩
            case measure =>
              have := (tdiv_abs m).1
              rw [emp_cons, emp_no HE.out]; show (m.tdiv 10).natAbs + 0 < m.natAbs + 0; omega
  · go_enter Tryz.func55, Tryz.ntmps55
    go_wp2
    go_loopw [0, 3] (fun nv sv wr => ∃ (s : ByteArray) (m : Int), nv = .int .i64 m ∧ sv = .string s ∧ Below w.heap.size w wr ∧ Dn n m s.data.toList) (fun nv sv _ => (intOf nv).natAbs + emp sv)
    case atStart => exact ⟨⟨#[]⟩, n, rfl, rfl, Below.refl _ _, h0, h1, Or.inl ⟨rfl, rfl⟩⟩
    case round =>
      obtain ⟨s, m, rfl, rfl, hb, hd⟩ := hrel
      have hm0 := hd.1
      have hm1 := hd.2.1
      have hlen : s.size ≤ 19 := by have := dn_len h0 h1 hd; simpa using this
      have HD : Hid (Dn n m s.data.toList) := hd
      clear hd
      have hbd : -10 < m.tmod 10 ∧ m.tmod 10 < 10 := by
        rcases Int.le_total 0 m with hm | hm
        · rw [(tm_pos m hm).1]; omega
        · rw [(tm_neg m hm).1]; omega
      have hbd1 := hbd.1
      have hbd2 := hbd.2
      have hq0 := ((tdiv_abs m).2.2 hm0 hm1).1
      have hq1 := ((tdiv_abs m).2.2 hm0 hm1).2
      clear hbd
      by_cases he : s.toList.isEmpty = true
      · have HE : Hid (s.data.toList = []) := by rw [isEmpty_data] at he; exact List.isEmpty_iff.1 he
        by_cases ht : m.tmod 10 < 0
        · have hcv := fun t => conv_one wr (48 + -m.tmod 10) t (by omega) (by omega)
          go_wp2
          go_roundw
          case rel => exact ⟨_, m.tdiv 10, by go_num, rfl, hb.alloc (by have := hb.size; omega) _, by rw [cons_str]; exact dn_step HD.out (Or.inl HE.out) ((tmod_abs m).1 ht)⟩
          case measure =>
            have := (tdiv_abs m).1
            rw [emp_cons, emp_yes HE.out]; show (m.tdiv 10).natAbs + 0 < m.natAbs + 1; omega
        · have hcv := fun t => conv_one wr (48 + m.tmod 10) t (by omega) (by omega)
          go_wp2
          go_roundw
          case rel => exact ⟨_, m.tdiv 10, by go_num, rfl, hb.alloc (by have := hb.size; omega) _, by rw [cons_str]; exact dn_step HD.out (Or.inl HE.out) ((tmod_abs m).2 ht)⟩
          case measure =>
            have := (tdiv_abs m).1
            rw [emp_cons, emp_yes HE.out]; show (m.tdiv 10).natAbs + 0 < m.natAbs + 1; omega
      · have HE : Hid (s.data.toList ≠ []) := by rw [isEmpty_data] at he; exact fun e => he (by rw [e]; rfl)
        have he' : s.toList.isEmpty = false := by simpa using he
        clear he
        by_cases hm : m = 0
        · subst hm
          clear hbd1 hbd2 hq0 hq1 hm0 hm1
          go_wp2
          go_ret
          refine ⟨?_, hb⟩
          have e := dn_end HD.out HE.out
          exact congrArg (fun x => Ending.returned (.string x)) (pos_str (by omega) e)
        · by_cases ht : m.tmod 10 < 0
          · have hcv := fun t => conv_one wr (48 + -m.tmod 10) t (by omega) (by omega)
            go_wp2
            go_roundw
            case rel => exact ⟨_, m.tdiv 10, by go_num, rfl, hb.alloc (by have := hb.size; omega) _, by rw [cons_str]; exact dn_step HD.out (Or.inr hm) ((tmod_abs m).1 ht)⟩
            case measure =>
              have := (tdiv_abs m).1
              rw [emp_cons, emp_no HE.out]; show (m.tdiv 10).natAbs + 0 < m.natAbs + 0; omega
          · have hcv := fun t => conv_one wr (48 + m.tmod 10) t (by omega) (by omega)
            go_wp2
            go_roundw
            case rel => exact ⟨_, m.tdiv 10, by go_num, rfl, hb.alloc (by have := hb.size; omega) _, by rw [cons_str]; exact dn_step HD.out (Or.inr hm) ((tmod_abs m).2 ht)⟩
            case measure =>
              have := (tdiv_abs m).1
              rw [emp_cons, emp_no HE.out]; show (m.tdiv 10).natAbs + 0 < m.natAbs + 0; omega
end St
end Go.Proofs.YtbgbddahniacbaaGreatDoor
