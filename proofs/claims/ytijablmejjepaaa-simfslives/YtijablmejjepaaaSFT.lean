/- law11: alive. -/
import Derived.Test.YtijablmejjepaaaSFS
namespace Go.Proofs.Ytijablmejjepaaa
open Go.RowKit Go.Maps Go.Sort

theorem fsB_of {w : World} {base : Nat} {p : Value} {O : Nat → Prop} {s : SfS} (h : Fs w O p s) (hO : ∀ k, O k → base ≤ k) : FsB w base p s := Fs.wider h (fun k q => ⟨hO k q, h.lt k q⟩) (fun _ q => q.2)
theorem fsB_append {w : World} {base : Nat} {p : Value} {s : SfS} (h : FsB w base p s) (hbs : base ≤ w.heap.size) (n : List UInt8) (hn : n.length ≤ maxLen) (l : List UInt8) (h0 : 0 < l.length) (hl : l.length ≤ 1000) :
    Calls Try.prog 12 #[p, .string ⟨n.toArray⟩, .slice (some ⟨w.heap.size, 0, none⟩) l.length l.length] (w.alloc (.cells (l.map bc).toArray 5)) fun e w' => e = .returned (.int .i64 (sfAppend s n l).1) ∧ FsB w' base p (sfAppend s n l).2 ∧ Below base w w' := by
  have hb : Below w.heap.size w (w.alloc (.cells (l.map bc).toArray 5)) := (Below.refl _ _).alloc (Nat.le_refl _) _
  have hf := Fs.below h hb
  have hR : Reads (w.alloc (.cells (l.map bc).toArray 5)) (.slice (some ⟨w.heap.size, 0, none⟩) l.length l.length) l := .inr ⟨_, 0, _, rfl, h0, Nat.le_refl _, by simp only [maxLen]; omega, by simp, fun j hj => by
    have := heap_alloc_new w (.cells (l.map bc).toArray 5)
    rw [Nat.zero_add]
    exact cell_of this j _ (by simp [hj])⟩
  refine (hf.append n hn _ l (fun w' q => hR.keepB (fun k hk hlt => q.block k hlt ?_) q.size)).mono ?_
  · obtain rfl : w.heap.size = k := by simpa [Value.ownBlock] using hk
    omega
  · rintro e w' ⟨he, hf', ho⟩
    have hs := hb.size
    refine ⟨he, fsB_of hf' (fun k q => ?_), (hb.mono hbs).trans (ho.below (by omega) (fun k q => q.1))⟩
    rcases q with q | q
    · exact q.1
    · omega
theorem kreads_nil (w : World) : KReads w (.slice none 0 0) [] := ⟨none, 0, rfl, by simp, .inl rfl⟩
def aS1 : SfS := (sfCreate (sfZ 100) [97]).2
def aS2 : SfS := (sfAppend aS1 [97] [1, 2]).2
def aS3 : SfS := (sfSync aS2 [97]).2
def aS4 : SfS := (sfSyncDir aS3).2
def aS5 : SfS := (sfAppend aS4 [97] [3]).2
def aS6 : SfS := sfCrash aS5 0 []
theorem aS6_read : sfRead aS6 [97] = [1, 2] := by decide
theorem aS6_look : sfFe (sfLook [97] aS6.dir) = 0 := by decide
theorem aS6_no : (sfCreate aS6 [65]).1 = 1 := by decide
theorem aS_pend : (sfZ 100).pend.length < 1099511627776 ∧ aS6.pend.length < 1099511627776 := by decide
theorem FsB.ptr {w : World} {base : Nat} {p : Value} {s : SfS} (h : FsB w base p s) : ∃ g, p = .pointer (some ⟨g, 0, none⟩) := Fs.ptr h
set_option maxRecDepth 100000 in
set_option maxHeartbeats 4000000 in
theorem alive11_any (w : World) : Calls Try.prog 7 #[] w fun e w' => e = .returned (.bool true) ∧ Below w.heap.size w w' := by
  go_enter Try.func7, Try.ntmps7
  go_wp2_with fail
  refine (fs_new 100 _ (by omega) (by omega)).mono ?_
  rintro e w1 ⟨p, rfl, hf1, hb1⟩
  obtain ⟨g, rfl⟩ := hf1.ptr
  have HF1 : Hid (FsB w1 w.heap.size (.pointer (some ⟨g, 0, none⟩)) (sfZ 100)) := hf1
  have HB1 : Hid (Below w.heap.size w w1) := hb1
  clear hf1 hb1
  go_wp2_with fail
  refine (Fs.create HF1.out [97] (by decide) aS_pend.1).mono ?_
  rintro e w2 hr
  obtain ⟨rfl, hf2, hb2⟩ := hr.fsB HB1.out.size
  have HF2 : Hid (FsB w2 w.heap.size (.pointer (some ⟨g, 0, none⟩)) aS1) := hf2
  have HB2 : Hid (Below w.heap.size w w2) := HB1.out.trans hb2
  clear hf2 hb2 hr HF1 HB1
  go_wp2_with fail
  refine (fsB_append HF2.out HB2.out.size [97] (by decide) [1, 2] (by decide) (by decide)).mono ?_
  rintro e w3 ⟨rfl, hf3, hb3⟩
  have HF3 : Hid (FsB w3 w.heap.size (.pointer (some ⟨g, 0, none⟩)) aS2) := hf3
  have HB3 : Hid (Below w.heap.size w w3) := HB2.out.trans hb3
  clear hf3 hb3 HF2 HB2
  go_wp2_with fail
  refine (Fs.sync HF3.out [97] (by decide)).mono ?_
  rintro e w4 hr
  obtain ⟨rfl, hf4, hb4⟩ := hr.fsB HB3.out.size
  have HF4 : Hid (FsB w4 w.heap.size (.pointer (some ⟨g, 0, none⟩)) aS3) := hf4
  have HB4 : Hid (Below w.heap.size w w4) := HB3.out.trans hb4
  clear hf4 hb4 hr HF3 HB3
  go_wp2_with fail
  refine (Fs.syncDir HF4.out).mono ?_
  rintro e w5 hr
  obtain ⟨rfl, hf5, hb5⟩ := hr.fsB HB4.out.size
  have HF5 : Hid (FsB w5 w.heap.size (.pointer (some ⟨g, 0, none⟩)) aS4) := hf5
  have HB5 : Hid (Below w.heap.size w w5) := HB4.out.trans hb5
  clear hf5 hb5 hr HF4 HB4
  go_wp2_with fail
  refine (fsB_append HF5.out HB5.out.size [97] (by decide) [3] (by decide) (by decide)).mono ?_
  rintro e w6 ⟨rfl, hf6, hb6⟩
  have HF6 : Hid (FsB w6 w.heap.size (.pointer (some ⟨g, 0, none⟩)) aS5) := hf6
  have HB6 : Hid (Below w.heap.size w w6) := HB5.out.trans hb6
  clear hf6 hb6 HF5 HB5
  go_wp2_with fail
  refine (Fs.crash HF6.out 0 (.slice none 0 0) [] (fun w' _ => kreads_nil w')).mono ?_
  rintro e w7 hr
  obtain ⟨rfl, hf7, hb7⟩ := hr.fsB HB6.out.size
  have HF7 : Hid (FsB w7 w.heap.size (.pointer (some ⟨g, 0, none⟩)) aS6) := hf7
  have HB7 : Hid (Below w.heap.size w w7) := HB6.out.trans hb7
  clear hf7 hb7 hr HF6 HB6
  go_wp2_with fail
  refine (Fs.read HF7.out [97] (by decide)).mono ?_
  rw [aS6_read, aS6_look]
  rintro e w8 ⟨v, rfl, ho8, hb8⟩
  have HF8 : Hid (FsB w8 w.heap.size (.pointer (some ⟨g, 0, none⟩)) aS6) := HF7.out.below hb8
  have HB8 : Hid (Below w.heap.size w w8) := HB7.out.trans (hb8.mono HB7.out.size)
  obtain ⟨va, vc, hv, -⟩ := ho8.form
  subst hv
  have ht : (convert 31 9 (.slice va 2 vc)).run Try.prog w8 = .ok (.string ⟨#[1, 2]⟩) w8 := reads_text ho8.reads
  clear hb8 ho8 HF7 HB7
  have HCR := (show Hid (Calls Try.prog 11 #[.pointer (some ⟨g, 0, none⟩), .string ⟨[65].toArray⟩] w8 fun e w' => e = .returned (.int .i64 1) ∧ Below w.heap.size w8 w') from (Fs.create HF8.out [65] (by decide) aS_pend.2).mono (fun e w' hr => by
    obtain ⟨he, _, hb⟩ := hr.fsB HB8.out.size
    rw [aS6_no] at he
    exact ⟨he, hb⟩))
  go_wp2_with (go_at_call 4; refine (new_no 0 _ (by omega)).mono ?_; rintro e w' ⟨rfl, hw'⟩; subst w')
  refine HCR.out.mono ?_
  rintro e w9 ⟨rfl, hb9⟩
  go_wp2_with fail
  go_ret
  exact ⟨rfl, HB8.out.trans hb9⟩
end Go.Proofs.Ytijablmejjepaaa
