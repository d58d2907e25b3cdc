/- The contract of the reference's Write (beside the newer words on bytes). -/
import Derived.Test.YtaafklpgfikjnaaX3
import Derived.Test.YtaafklpgfikjnaaC0
namespace Go.Proofs.Ytaafklpgfikjnaa
open Go.RowKit

theorem DArr.bel {w w' : World} {n b : Nat} {f : Nat → Int} (h : DArr w b f) (hb : Below n w w') (hn : b < n) : DArr w' b f := by
  have := hb.size
  exact ⟨by have := h.1; omega, fun j hj => (hb.cell (p := ⟨b, j, none⟩) hn).trans (h.2.1 j hj), fun j => (hb.frozen (p := ⟨b, j, none⟩) hn).trans (h.2.2 j)⟩
/-- Digit j, the least first. -/
def wrF (L U : Int) (j : Nat) : Int := if j < 8 then dig L j else dig U (j - 8)
/-- The first m bytes, the greatest first. -/
def wrZ (L U : Int) (m : Nat) : List Int := (List.range m).map fun j => wrF L U (15 - j)
theorem wrZ_succ (L U : Int) (m : Nat) : wrZ L U (m + 1) = wrZ L U m ++ [wrF L U (15 - m)] := by
  simp [wrZ, List.range_succ]
theorem wrF_bd (L U : Int) (j : Nat) : 0 ≤ wrF L U j ∧ wrF L U j ≤ 255 := by
  unfold wrF dig; split <;> omega
theorem wrZ_all (L U : Int) : wrZ L U 16 = sixteen U L := by
  simp [wrZ, List.range_succ, wrF, dig, sixteen, bytesTo, byteOf]
theorem digits_f (H L U : Int) (l1 : 0 ≤ L) (l2 : L < 18446744073709551616) (hU : IntKind.u64.wrap H = U) (u1 : 0 ≤ U) (u2 : U < 18446744073709551616) (w : World) :
    Calls Try.prog 27 #[.agg #[.int .i64 H, .int .u64 L]] w fun e w' => e = .returned (.agg #[.int .i64 (wrF L U 0), .int .i64 (wrF L U 1), .int .i64 (wrF L U 2), .int .i64 (wrF L U 3), .int .i64 (wrF L U 4), .int .i64 (wrF L U 5), .int .i64 (wrF L U 6), .int .i64 (wrF L U 7), .int .i64 (wrF L U 8), .int .i64 (wrF L U 9), .int .i64 (wrF L U 10), .int .i64 (wrF L U 11), .int .i64 (wrF L U 12), .int .i64 (wrF L U 13), .int .i64 (wrF L U 14), .int .i64 (wrF L U 15)]) ∧ Below w.heap.size w w' := digits_walk H L U l1 l2 hU u1 u2 w
set_option maxRecDepth 100000 in
set_option maxHeartbeats 2000000 in
theorem refWrite_walk (H L U : Int) (l1 : 0 ≤ L) (l2 : L < 18446744073709551616) (hU : IntKind.u64.wrap H = U) (u1 : 0 ≤ U) (u2 : U < 18446744073709551616) (w : World) : Calls Try.prog 16 #[.agg #[.int .i64 H, .int .u64 L]] w fun e w' => ∃ v, e = .returned v ∧ w'.ownsRow w.heap.size 5 1 v 16 ((wrZ L U 16).map (Value.int .u8)) ∧ Below w.heap.size w w' := by
  obtain ⟨i0, hi, hz0, hz1, hz2⟩ := info_parts info5
  have HB0 : Hid (∀ o, Below w.heap.size w (w.alloc o)) := fun o => (Below.refl _ _).alloc (Nat.le_refl _) _
  go_enter Try.func16, Try.ntmps16
  go_wp2_with fail
  refine (digits_f H L U l1 l2 hU u1 u2 _).mono ?_
  rintro e w1 ⟨rfl, hb⟩
  have HB1 : Hid (Below w.heap.size w w1) := (HB0.out _).trans (hb.mono (by simp))
  clear hb HB0 hU
  have HF : Hid (∀ j, 0 ≤ wrF L U j ∧ wrF L U j ≤ 255) := wrF_bd L U
  have HN : Hid (∀ t, DArr (w1.alloc (.cells #[.int .i64 (wrF L U 0), .int .i64 (wrF L U 1), .int .i64 (wrF L U 2), .int .i64 (wrF L U 3), .int .i64 (wrF L U 4), .int .i64 (wrF L U 5), .int .i64 (wrF L U 6), .int .i64 (wrF L U 7), .int .i64 (wrF L U 8), .int .i64 (wrF L U 9), .int .i64 (wrF L U 10), .int .i64 (wrF L U 11), .int .i64 (wrF L U 12), .int .i64 (wrF L U 13), .int .i64 (wrF L U 14), .int .i64 (wrF L U 15)] t)) w1.heap.size (wrF L U)) := fun t => DArr.new w1 (wrF L U) t
  have HZ0 : Hid (wrZ L U 0 = []) := rfl
  have HZS : Hid (∀ m, wrZ L U (m + 1) = wrZ L U m ++ [wrF L U (15 - m)]) := wrZ_succ L U
  obtain ⟨Z, HZE⟩ : ∃ Z, Hid (Z = wrZ L U) := ⟨_, rfl⟩
  rw [← HZE.out] at HZ0 HZS
  generalize wrF L U = f at *
  go_wp2_with fail
  go_loopw [4, 5] (fun v i wr => ∃ m : Nat, m ≤ 16 ∧ i = .int .i64 (15 - (m : Int)) ∧ wr.ownsRow (w1.heap.size + 1) 5 1 v m ((Z m).map (Value.int .u8)) ∧ DArr wr w1.heap.size f ∧ Below w.heap.size w wr) (fun _ i _ => (intOf i + 1).toNat)
  case atStart =>
    refine ⟨0, by omega, rfl, by rw [HZ0.out]; exact ⟨rfl, .inl ⟨rfl, rfl⟩⟩, HN.out _, HB1.out.alloc HB1.out.size _⟩
  case round =>
    obtain ⟨m, hm, rfl, hown, hd, hbr⟩ := hrel
    by_cases hlt : m < 16
    · obtain ⟨k, hk⟩ : ∃ k : Nat, (15 - (m : Int)) = (k : Int) := ⟨15 - m, by omega⟩
      have ek : k = 15 - m := by omega
      have c1 := hd.2.1 k (by omega)
      obtain ⟨z0, z1⟩ := HF.out k
      have HX : Hid (Z (m + 1) = Z m ++ [f k]) := by unfold Hid; rw [HZS.out m, ek]
      have HO : Hid _ := hown
      have HB : Hid (Below w.heap.size w wr) := hbr
      have HD : Hid (DArr wr w1.heap.size f) := hd
      have s1 := hbr.size
      have s2 := hd.1
      have k0 : (0 : Int) ≤ (k : Int) := by omega
      have k16 : (k : Int) < 16 := by omega
      have w5 : IntKind.u8.wrap (f k) = f k := by rw [IntKind.wrap_u8]; omega
      have HK : Hid (15 - (m : Int) = (k : Int)) := hk
      have HM : Hid (m < 16) := hlt
      generalize hx : f k = x at *
      rw [hk]
      clear hd hbr hk ek hlt hm
      go_wp2_with (at_builtin; refine wpList_append_own _ rfl _ _ 27 rfl (w1.heap.size + 1) 5 i0 (.int .u8 0) 1 1 Try.underlying27 hi hz0 hz1 hz2 rfl (by decide) _ _ _ rfl (hown.alloc _) ⟨wr.heap.size, 0, none⟩ 1 1 [.int .u8 x] rfl rfl ?c1 ?c2 ?c3 ?c4 ?c5 ?_)
      case c1 =>
        intro j u hj
        match j, hj with
        | 0, hj => simp at hj; subst hj; simp [Addr.add]
      case c2 => intro u hu; simp at hu; subst hu; rfl
      case c3 => unfold maxLen; have := HM.out; omega
      case c4 => have := HM.out; omega
      case c5 => simp; omega
      intro v' w2 hown' hgrow _
      have HO2 : Hid (w2.ownsRow (w1.heap.size + 1) 5 1 v' (m + 1) ((Z (m + 1)).map (Value.int .u8))) := by
        unfold Hid
        rw [HX.out, List.map_append]
        exact hown'
      have HB2 : Hid (Below (w1.heap.size + 1) wr w2) := ((Below.refl _ _).alloc (by omega) _).grown hgrow (by simp; omega) (own_block hown)
      clear hown hown' hgrow
      go_wp2_with fail
      go_roundw
      case rel =>
        have := HK.out
        have := HM.out
        exact ⟨m + 1, by omega, congrArg (Value.int .i64) (by omega), HO2.out, HD.out.bel HB2.out (by omega), HB.out.trans (HB2.out.mono (by have := HB1.out.size; omega))⟩
      case measure => simp [intOf]
    · have hm16 : m = 16 := by omega
      subst hm16
      have HO : Hid _ := hown
      have HB : Hid (Below w.heap.size w wr) := hbr
      clear hown hbr hd
      go_wp2_with fail
      go_ret
      obtain ⟨o1, o2⟩ := HO.out
      rw [HZE.out] at o1 o2
      refine ⟨_, rfl, ⟨o1, o2.imp id ?_⟩, HB.out⟩
      rintro ⟨g, cap, cur, e, hg, hr⟩
      exact ⟨g, cap, cur, e, by have := HB1.out.size; omega, hr⟩
end Go.Proofs.Ytaafklpgfikjnaa
