/- WS4, joined. -/
import Derived.Test.YtahigmjpeicemaaDoorWG19
/- law12's alive. -/
namespace Go.Proofs.YtahigmjpeicemaaDoor
open Go.RowKit Go.Shelf

theorem wr5 : (if isTm 5 = true then 2 :: nb 5 else []) = ([2, 128, 0, 0, 0, 0, 0, 0, 5] : List UInt8) := by decide
set_option maxRecDepth 100000 in
set_option maxHeartbeats 1000000 in
theorem alive12_any (w : World) : Calls Tryd.prog 6 #[] w fun e w' => e = .returned (.bool true) ∧ Below w.heap.size w w' := by
  go_enter Tryd.func6, Tryd.ntmps6
  go_wp2_with fail
  refine (wr_nil 5 w (by omega) (by omega)).mono ?_
  rintro e w1 ⟨vb, rfl, ho1, hb1⟩
  rw [wr5] at ho1
  rw [show (if isTm 5 = true then (0 : Int) else 90) = 0 from rfl]
  have hR1 : Hid (Reads w1 vb [2, 128, 0, 0, 0, 0, 0, 0, 5]) := ho1.reads
  obtain ⟨va, vc, rfl, _⟩ := ho1.form
  have HB1 : Hid (Below w.heap.size w w1) := hb1
  clear ho1 hb1
  go_wp2_with fail
  refine (fs_new 1000 w1 (by omega) (by omega)).mono ?_
  rintro e w2 ⟨p, rfl, hf2, hb2⟩
  have HF2 : Hid (Fs w2 (fun k => w1.heap.size ≤ k ∧ k < w2.heap.size) p (sfZ 1000)) := hf2
  have HB2 : Hid (Below w1.heap.size w1 w2) := hb2
  obtain ⟨pg, rfl⟩ := hf2.ptr
  clear hf2 hb2
  go_wp2_with fail
  refine (start_any HF2.out 12 (by show [].length < _; simp) (.inl (by omega))).mono ?_
  rintro e w3 ⟨lv, O', rfl, hf3, _, ho3, hlv⟩
  obtain ⟨s3, hs3, hd3⟩ := st12
  rw [hs3] at hf3 hlv
  rw [hs3]
  simp only at hf3 hlv ⊢
  obtain ⟨g3, rfl⟩ : ∃ g, lv = .pointer (some ⟨g, 0, none⟩) := by
    rcases hlv with ⟨h, _⟩ | ⟨_, g, h, _⟩
    · exact absurd rfl h
    · exact ⟨g, h⟩
  have HF3 : Hid (Fs w3 O' (.pointer (some ⟨pg, 0, none⟩)) s3) := hf3
  have HB3 : Hid (Below w1.heap.size w1 w3) := HB2.out.trans (ho3.below HB2.out.size (fun k hk => hk.1))
  have HD3 : Hid (s3.dir.length = 1) := hd3
  clear hf3 ho3 hlv hs3 hd3 HF2 HB2
  go_wp2_with fail
  refine (wread_nil w3).mono ?_
  rintro e w4 ⟨rfl, hb4⟩
  have HF4 : Hid (Fs (w4.alloc (.cells #[.slice none 0 0, .int .i64 0] 24)) O' (.pointer (some ⟨pg, 0, none⟩)) s3) := (HF3.out.below hb4).below ((Below.refl _ _).alloc (Nat.le_refl _) _)
  have HB4 : Hid (Below w1.heap.size w1 (w4.alloc (.cells #[.slice none 0 0, .int .i64 0] 24))) := (HB3.out.trans (hb4.mono HB3.out.size)).trans ((Below.refl _ _).alloc (Nat.le_trans HB3.out.size hb4.size) _)
  have ht : (convert 28 9 (.slice va 9 vc)).run Tryd.prog (w4.alloc (.cells #[.slice none 0 0, .int .i64 0] 24)) = .ok (.string ⟨#[2, 128, 0, 0, 0, 0, 0, 0, 5]⟩) (w4.alloc (.cells #[.slice none 0 0, .int .i64 0] 24)) := reads_text (hR1.out.below HB4.out)
  clear hb4 HF3 HB3
  go_wp2_with fail
  refine (name_any seg (by decide) 12 _ (.inl (by omega))).mono ?_
  rintro e w5 ⟨rfl, hb5⟩
  rw [nm12]
  have HF5 : Hid (Fs w5 O' (.pointer (some ⟨pg, 0, none⟩)) s3) := HF4.out.below hb5
  have HB5 : Hid (Below w1.heap.size w1 w5) := HB4.out.trans (hb5.mono HB4.out.size)
  clear hb5 ht HF4 HB4
  go_wp2_with fail
  refine HF5.out.list.mono ?_
  rintro e w6 ⟨v6, rfl, ho6, hb6⟩
  obtain ⟨la, lc, rfl⟩ := row_form ho6
  rw [HD3.out]
  have HB6 : Hid (Below w.heap.size w w6) := (HB1.out.trans (HB5.out.mono HB1.out.size)).trans (hb6.mono (Nat.le_trans HB1.out.size HB5.out.size))
  clear ho6 hb6
  go_wp2_with fail
  go_ret
  exact ⟨rfl, HB6.out⟩
end Go.Proofs.YtahigmjpeicemaaDoor
