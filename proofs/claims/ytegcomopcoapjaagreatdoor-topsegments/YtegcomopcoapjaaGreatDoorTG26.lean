/- TS3 WKs, joined. -/
import Derived.Test.YtegcomopcoapjaaGreatDoorTG3
import Derived.Test.YtegcomopcoapjaaGreatDoorTG14
import Derived.Test.YtegcomopcoapjaaGreatDoorTG25
import Derived.Deep.Slices
import Derived.Deep.MidRow
/- TopSegments' alive06. -/
namespace Go.Proofs.YtegcomopcoapjaaGreatDoor
open Go.RowKit Go.Shelf

theorem r4_right : rightR (⟨.slice none 0 0, [], 4⟩ : Rc).p 4 = true := by decide
theorem r4_len : (frm (wrR (⟨.slice none 0 0, [], 4⟩ : Rc).p 4)).length = 17 := by rw [frm_len]; decide
set_option maxRecDepth 100000 in
set_option maxHeartbeats 2000000 in
theorem alive06_any (w : World) : Calls Tryz.prog 5 #[] w fun e w' => e = .returned (.bool true) ∧ Below w.heap.size w w' := by
  go_enter Tryz.func5, Tryz.ntmps5
  go_wp2_with fail
  refine (fs_new 1000 _ (by omega) (by omega)).mono ?_
  rintro e w1 ⟨p, rfl, hf1, hb1⟩
  obtain ⟨g0, rfl⟩ := hf1.ptr
  have HF1 : Hid (Fs w1 (fun k => w.heap.size ≤ k ∧ k < w1.heap.size) (.pointer (some ⟨g0, 0, none⟩)) (sfZ 1000)) := hf1
  have HB1 : Hid (Below w.heap.size w w1) := hb1
  clear hf1 hb1
  go_wp2_with fail
  refine (start_any HF1.out 3 (by show (0 : Nat) < _; decide) (.inl (by decide))).mono ?_
  rintro e w2 ⟨lgv, O2, rfl, hf2, hg2, ho2, hlg⟩
  rw [sg_start (by decide)] at hf2 hlg ⊢
  simp only at hf2 hlg ⊢
  obtain ⟨nm, HNm⟩ := hid_ex (nmF seg 3)
  rw [← HNm.out] at hf2 hlg
  have HNl : Hid (nm.length ≤ maxLen) := by unfold Hid; rw [HNm.out]; have := nm_len (n := 3); unfold maxLen; omega
  rcases hlg with ⟨h0, _⟩ | ⟨_, g, rfl, hlg, hgo, hgs⟩
  · exact absurd rfl h0
  have HB2 : Hid (Below w.heap.size w w2) := HB1.out.trans (ho2.below HB1.out.size (fun k hk => hk.1))
  have HLo : Hid (∀ k, O2 k → w.heap.size ≤ k) := fun k hk => by
    rcases hg2 k hk with q | q
    · exact q.1
    · have := HB1.out.size; omega
  have HRc : Hid (RcOk w2 ⟨.slice none 0 0, [], 4⟩) := rc_nil _ _ (by omega) (by omega)
  have HAd : Hid (Calls Tryz.prog 9 #[.pointer (some ⟨g, 0, none⟩), .agg #[.slice none 0 0, .int .i64 4]] w2 (AdPost w2 O2 (.pointer (some ⟨g0, 0, none⟩)) (lgAdd (SgS 1000 nm [] 0) nm ⟨.slice none 0 0, [], 4⟩))) := logAdd_any hf2 hlg hgo HNl.out ⟨.slice none 0 0, [], 4⟩ HRc.out
  have HA1 : Hid (lgAdd (SgS 1000 nm [] 0) nm ⟨.slice none 0 0, [], 4⟩ = (0, SgS 1000 nm (frm (wrR (⟨.slice none 0 0, [], 4⟩ : Rc).p 4)) 0)) := by
    unfold Hid
    rw [lg_yes r4_right, sg_append _ _ _ _ _ (by rw [r4_len]; decide), r4_len, if_neg (by decide)]
    rfl
  obtain ⟨fb, HFb⟩ := hid_ex (frm (wrR (⟨.slice none 0 0, [], 4⟩ : Rc).p 4))
  have hfl : fb.length = 17 := by rw [HFb.out]; exact r4_len
  rw [← HFb.out] at HA1
  rw [HA1.out] at HAd
  have HL2 : Hid (LgAt w2 g (.pointer (some ⟨g0, 0, none⟩)) nm) := hlg
  have HG2 : Hid (¬ O2 g) := hgo
  clear hf2 hg2 ho2 hlg hgo hgs HF1 HA1
  go_wp2_with fail
  refine HAd.out.mono ?_
  rintro e w3 ⟨O3, rfl, hf3, hg3, ho3⟩
  have HB3 : Hid (Below w.heap.size w w3) := HB2.out.trans (ho3.below HB2.out.size HLo.out)
  have HLo3 : Hid (∀ k, O3 k → w.heap.size ≤ k) := fun k hk => by
    rcases hg3 k hk with q | q
    · exact HLo.out k q
    · have := HB2.out.size; omega
  have hg3' : ¬ O3 g := fun hk => by
    rcases hg3 g hk with q | q
    · exact HG2.out q
    · have := (Array.getElem?_eq_some_iff.1 HL2.out).1; omega
  have HSy : Hid (Calls Tryz.prog 10 #[.pointer (some ⟨g, 0, none⟩)] w3 (FsR w3 O3 (.pointer (some ⟨g0, 0, none⟩)) (sfSync (SgS 1000 nm fb 0) nm))) := logSync_any hf3 (HL2.out.onl ho3 HG2.out) hg3' HNl.out
  rw [sg_sync] at HSy
  clear hf3 hg3 ho3 HAd hg3'
  go_wp2_with fail
  refine HSy.out.mono ?_
  rintro e w4 ⟨rfl, hf4, ho4⟩
  have HB4 : Hid (Below w.heap.size w w4) := HB3.out.trans (ho4.below HB3.out.size HLo3.out)
  have HF4 : Hid (Fs w4 (Grw O3 w3 w4) (.pointer (some ⟨g0, 0, none⟩)) (SgS 1000 nm fb fb.length)) := hf4
  clear hf4 ho4 HSy
  go_wp2_with fail
  refine HF4.out.list.mono ?_
  rintro e w5 ⟨v5, rfl, hr5, hb5⟩
  obtain ⟨ra, rc, hrv⟩ := row_formS hr5
  have hd1 : (SgS 1000 nm fb fb.length).dir.length = 1 := rfl
  rw [hd1] at hrv
  subst hrv
  have HB5 : Hid (Below w.heap.size w w5) := HB4.out.trans (hb5.mono HB4.out.size)
  have HU : Hid (Calls Tryz.prog 16 #[.pointer (some ⟨g0, 0, none⟩)] w5 fun e w' => e = .returned (.int .i64 (sfUsed (SgS 1000 nm fb fb.length) : Int)) ∧ Below w5.heap.size w5 w') := (HF4.out.below hb5).used
  have hu : sfUsed (SgS 1000 nm fb fb.length) = 17 := by simp [sfUsed, SgS, SfS.fl, hfl]
  rw [hu] at HU
  clear hb5 hr5 HF4
  go_wp2_with fail
  refine HU.out.mono ?_
  rintro e w6 ⟨rfl, hb6⟩
  go_wp2_with fail
  go_ret
  exact ⟨rfl, HB5.out.trans (hb6.mono HB5.out.size)⟩
end Go.Proofs.YtegcomopcoapjaaGreatDoor

/- Rows of numbers, opened. -/
namespace Go.Proofs.YtegcomopcoapjaaGreatDoor
open Go.ChangeShapes Go.WideShapes Go.ChangeAt Go.RowKit Go.Joins

set_option maxRecDepth 100000 in
theorem openK11 {H : Type} {enc : TypeId × Value → H} {W : World} {base : Nat} {spare : Nat → Bool} {held : Bool} {cs : List Value} {x : DataW H × List MemPlace} {fuel : Nat}
    (hf : DataW.trod enc Tryz.prog W base spare held fuel 23 cs = some x) : ∃ v l, cs = [v] ∧ KReads W v l := by
  rcases open_ints Tryz.underlying23 Tryz.underlying3 (by kernel_rfl) hf with ⟨rfl, _⟩ | ⟨x, len, cap, zs, rfl, _, hl, hm, hz, _, hcell, hwz⟩
  · exact ⟨_, [], rfl, ⟨none, 0, rfl, Nat.zero_le _, .inl rfl⟩⟩
  · have hzl : len ≤ zs.length := by rw [hz]; split <;> omega
    have hlen : (zs.take len).length = len := by simp; omega
    refine ⟨_, zs.take len, rfl, _, cap, by rw [hlen], by omega, ?_⟩
    rcases Nat.eq_zero_or_pos len with h0 | h0
    · subst h0; exact .inl rfl
    · right
      have c0 := hcell 0 (by omega)
      have e0 : x.add 0 = x := by simp [Addr.add]
      rw [e0] at c0
      obtain ⟨hb, hs⟩ := cell_block c0
      obtain ⟨b, off, spot⟩ := x
      simp only at hb hs
      subst hs
      refine ⟨b, off, rfl, hb, fun j hj => ?_⟩
      have hj' : j < len := by omega
      have cj := hcell j (by omega)
      have ea : (⟨b, off, none⟩ : Addr).add j = ⟨b, off + j, none⟩ := by simp [Addr.add]
      rw [ea] at cj
      rw [cj]
      have hzj : j < zs.length := by omega
      have hg : zs.getD j 0 = zs[j] := by simp [List.getD, hzj]
      rw [hg]
      simp
set_option maxRecDepth 100000 in
theorem openKs {H : Type} {enc : TypeId × Value → H} {W : World} {r : Reach} {b0 base : Nat} {spare : Nat → Bool} {held : Bool} {v : Value} {d : DataW H} {p : List MemPlace}
    (hv : Value.okWide Tryz.prog W r b0 23 v) (h : DataW.Trod enc Tryz.prog W base spare held 23 v d p) : ∃ l : List Int, KReads W v l := by
  obtain ⟨a, len, cap, rfl⟩ := okWide_slice Tryz.underlying23 hv
  obtain ⟨fuel, hf⟩ := h
  obtain ⟨v', l, e, hr⟩ := openK11 hf
  simp [Value.cells] at e
  subst e
  exact ⟨l, hr⟩
end Go.Proofs.YtegcomopcoapjaaGreatDoor
