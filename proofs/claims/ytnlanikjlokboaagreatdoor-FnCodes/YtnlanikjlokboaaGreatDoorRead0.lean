/- Contracts under the program's reading of a step. -/
import Derived.Test.YtnlanikjlokboaaGreatDoorShow4
import Derived.Test.YtnlanikjlokboaaGreatDoorLaw0
import Derived.Test.YtnlanikjlokboaaGreatDoorBox0
namespace Go.Proofs.YtnlanikjlokboaaGreatDoor
namespace St
open Go.ChangeShapes Go.WideShapes Go.ChangeAt Go.RowKit

/-- What the library's variables hold, in w and in all that grows out of it. -/
structure Env (B : Nat) (w : World) : Prop where
  tab : Tab B w
  maxLen : ∃ m, w.cell? ⟨0, 0, none⟩ = some (.int .i64 m) ∧ 0 < B
  syn : ∃ ev, w.cell? ⟨3, 0, none⟩ = some ev ∧ (ev = .nilIface ∨ ∃ te pe, ev = .iface te pe) ∧ 3 < B
  ran : ∃ ev, w.cell? ⟨4, 0, none⟩ = some ev ∧ (ev = .nilIface ∨ ∃ te pe, ev = .iface te pe) ∧ 4 < B

theorem Env.on {B : Nat} {w w1 : World} (h : Env B w) (hb : Below B w w1) : Env B w1 := by
  obtain ⟨ht, ⟨m, hm, lm⟩, ⟨e1, h1, k1, l1⟩, ⟨e2, h2, k2, l2⟩⟩ := h
  exact ⟨ht.on hb, ⟨m, (hb.cell lm).trans hm, lm⟩, ⟨e1, (hb.cell l1).trans h1, k1, l1⟩, ⟨e2, (hb.cell l2).trans h2, k2, l2⟩⟩

theorem below_bytesWorld (w : World) (t : TypeId) (s : ByteArray) : Below w.heap.size w (Lib.bytesWorld w t s) := by
  refine ⟨rfl, rfl, rfl, ?_, fun k hk => Lib.bytesWorld_at_old w t s k hk⟩
  rw [Lib.bytesWorld_size]; omega

theorem parse_at (s : ByteArray) (hs : s.size ≤ 281474976710656) (B : Nat) (w : World) (hE : Env B w) :
    Calls Tryz.prog 56 #[.string s, .int .i64 10, .int .i64 64] w fun e w' => ∃ er, e = .returned (.tuple #[.int .i64 (Tx.numL s.data.toList), er]) ∧ (er = .nilIface ∨ ∃ t p, er = .iface t p) ∧ Below w.heap.size w w' := by
  cases h : Lib.parseIntB 64 s.data.toList with
  | ok v =>
    have e : Tx.numL s.data.toList = v := by unfold Tx.numL; rw [h]
    rw [e]
    refine (Tryz.strconv_ParseInt_10_at64_ok s (by omega) v h w).mono ?_
    rintro e w' ⟨rfl, hw⟩
    refine ⟨_, rfl, Or.inl rfl, ?_⟩
    rcases hw with rfl | ⟨t, rfl⟩
    · exact Below.refl _ _
    · exact below_bytesWorld _ _ _
  | «syntax» =>
    have e : Tx.numL s.data.toList = 0 := by unfold Tx.numL; rw [h]
    rw [e]
    obtain ⟨ev, hv, hev, _⟩ := hE.syn
    refine (Tryz.strconv_ParseInt_10_at64_syntax s hs h ev w hv hev).mono ?_
    rintro e w' ⟨N, rfl, _, _, hb⟩
    exact ⟨_, rfl, Or.inr ⟨_, _, rfl⟩, hb⟩
  | range =>
    have e : Tx.numL s.data.toList = Lib.intSat 64 s.data.toList := by unfold Tx.numL; rw [h]
    rw [e]
    obtain ⟨ev, hv, hev, _⟩ := hE.ran
    refine (Tryz.strconv_ParseInt_10_at64_range s hs h ev w hv hev).mono ?_
    rintro e w' ⟨N, rfl, _, _, hb⟩
    exact ⟨_, rfl, Or.inr ⟨_, _, rfl⟩, hb⟩

theorem digits_at (s : ByteArray) (hs : s.size ≤ 281474976710656) (B : Nat) (w : World) (hE : Env B w) :
    Calls Tryz.prog 39 #[.string s] w fun e w' => e = .returned (.int .i64 (Tx.numL s.data.toList)) ∧ Below w.heap.size w w' := by
  have HE : Hid (Env B w) := hE
  clear hE
  go_enter Tryz.func39, Tryz.ntmps39
  go_wp2_with fail
  refine (parse_at s hs B _ HE.out).mono ?_
  rintro e w' ⟨er, rfl, her, hb⟩
  rcases her with rfl | ⟨t, p, rfl⟩
  all_goals
    go_wp2_with fail
    go_ret
    exact ⟨rfl, hb⟩

theorem opOf_at (c : Int) (w : World) :
    Calls Tryz.prog 38 #[.int .u8 c] w fun e w' => e = .returned (.int .i64 (Lib.indexByte Tx.letters c.toNat.toUInt8 + 1)) ∧ w = w' := by
  have hbd : ∀ (l : List UInt8) (c : UInt8), -1 ≤ Lib.indexByte l c ∧ Lib.indexByte l c < l.length := by
    intro l c
    induction l with
    | nil => simp [Lib.indexByte]
    | cons x l ih => simp only [Lib.indexByte, List.length_cons]; repeat' split
                     all_goals omega
  have h1 := (hbd Tx.letters c.toNat.toUInt8).1
  have h2 : Lib.indexByte Tx.letters c.toNat.toUInt8 < 20 := (hbd Tx.letters c.toNat.toUInt8).2
  clear hbd
  go_enter Tryz.func38, Tryz.ntmps38
  go_wp2_with fail
  refine (Tryz.strings_IndexByte ⟨#[97, 98, 99, 100, 101, 102, 103, 104, 105, 106, 107, 108, 109, 110, 111, 112, 113, 114, 115, 116]⟩ c _).mono ?_
  have e : (⟨#[97, 98, 99, 100, 101, 102, 103, 104, 105, 106, 107, 108, 109, 110, 111, 112, 113, 114, 115, 116]⟩ : ByteArray).data.toList = Tx.letters := rfl
  rw [e]
  generalize hz : Lib.indexByte Tx.letters c.toNat.toUInt8 = z at h1 h2
  rintro e w' ⟨rfl, rfl⟩
  have HZ : Hid (Lib.indexByte Tx.letters c.toNat.toUInt8 = z) := hz
  clear hz
  go_wp2
  go_ret
  exact ⟨by rw [HZ.out]; rfl, rfl⟩
end St
end Go.Proofs.YtnlanikjlokboaaGreatDoor
