/- law11: model, of the document's file system. (written by mkrg21.py) -/
import Derived.Test.YtijablmejjepaaaRG20
namespace Go.Proofs.Ytijablmejjepaaa
open Go.RowKit Go.Maps Go.Sort

set_option maxRecDepth 100000 in
set_option maxHeartbeats 8000000 in
theorem model_any {w : World} {O : Nat → Prop} {p : Value} {s : SfS} (h : Rf w O p s) (o : SfO) (ho : ∀ w', Onl O w w' → SfOk w' o) (hlg : sfLong o = false) (hpn : s.pend.length < 1000000) (hfn : s.fls.length < 900000) : Calls Try.prog 9 #[p, .agg (o7 o).toArray] w (RfR w O p (sfCall s o)) := by
  obtain ⟨g, rfl⟩ := h.ptr
  have hlt := h.lt
  have h0 := ho w (Onl.refl _ _)
  obtain ⟨hl1, hl2, hl3, hl4⟩ := long_false hlg
  obtain ⟨k, nm, to, bv, b, n, kv, ks, e⟩ := o
  obtain ⟨ba, bcp, hbv, -⟩ := h0.rb.form
  obtain ⟨ka, kcp, hkv, -⟩ := h0.rk.form
  simp only at hbv hkv hl1 hl2 hl3 hl4
  subst hbv hkv
  have hn2 := h0.n2
  simp only at hn2
  unfold o7
  simp only
  have hbe : Below w.heap.size w (w.alloc (.cells #[.int .i64 k, .string ⟨nm.toArray⟩, .string ⟨to.toArray⟩, .slice ba b.length bcp, .int .i64 n, .slice ka ks.length kcp, .int .i64 e] 34)) := (Below.refl _ _).alloc (Nat.le_refl _) _
  have hx := heap_alloc_new w (.cells #[.int .i64 k, .string ⟨nm.toArray⟩, .string ⟨to.toArray⟩, .slice ba b.length bcp, .int .i64 n, .slice ka ks.length kcp, .int .i64 e] 34)
  have hF := h.below hbe
  have hon : Onl O w (w.alloc (.cells #[.int .i64 k, .string ⟨nm.toArray⟩, .string ⟨to.toArray⟩, .slice ba b.length bcp, .int .i64 n, .slice ka ks.length kcp, .int .i64 e] 34)) := onl_of_below hbe
  have HO1 : Hid (∀ w', Onl O (w.alloc (.cells #[.int .i64 k, .string ⟨nm.toArray⟩, .string ⟨to.toArray⟩, .slice ba b.length bcp, .int .i64 n, .slice ka ks.length kcp, .int .i64 e] 34)) w' → SfOk w' ⟨k, nm, to, .slice ba b.length bcp, b, n, .slice ka ks.length kcp, ks, e⟩) := fun w' q => ho w' (hon.then q)
  obtain ⟨w1, HW1⟩ := hid_ex (w.alloc (.cells #[.int .i64 k, .string ⟨nm.toArray⟩, .string ⟨to.toArray⟩, .slice ba b.length bcp, .int .i64 n, .slice ka ks.length kcp, .int .i64 e] 34))
  rw [← HW1.out] at hbe hx hF hon HO1
  have HF : Hid (Rf w1 O (.pointer (some ⟨g, 0, none⟩)) s) := hF
  have HBE : Hid (Below w.heap.size w w1) := hbe
  have HLT : Hid (∀ k, O k → k < w.heap.size) := hlt
  clear h ho h0 hlt hbe hx hF hon hlg
  unfold sfCall
  simp only
  by_cases h0 : k = 0
  · subst h0
    rw [if_pos rfl]
    have HF' : Hid (Rf (w.alloc (.cells #[.int .i64 0, .string ⟨nm.toArray⟩, .string ⟨to.toArray⟩, .slice ba b.length bcp, .int .i64 n, .slice ka ks.length kcp, .int .i64 e] 34)) O (.pointer (some ⟨g, 0, none⟩)) s) := HW1.out ▸ HF.out
    have HBE' : Hid (Below w.heap.size w (w.alloc (.cells #[.int .i64 0, .string ⟨nm.toArray⟩, .string ⟨to.toArray⟩, .slice ba b.length bcp, .int .i64 n, .slice ka ks.length kcp, .int .i64 e] 34))) := HW1.out ▸ HBE.out
    go_enter Try.func9, Try.ntmps9
    go_wp2_with (go_at_call 21; refine (HF'.out.create nm (by omega) hpn hfn).mono ?_; rintro e' w2 hr; obtain ⟨he, hr2⟩ := hr; subst he)
    go_ret
    exact RfR.from (w1 := (w.alloc (.cells #[.int .i64 0, .string ⟨nm.toArray⟩, .string ⟨to.toArray⟩, .slice ba b.length bcp, .int .i64 n, .slice ka ks.length kcp, .int .i64 e] 34))) ⟨rfl, hr2⟩ HLT.out HBE'.out
  · rw [if_neg h0]
    by_cases h1 : k = 1
    · subst h1
      rw [if_pos rfl]
      have HF' : Hid (Rf (w.alloc (.cells #[.int .i64 1, .string ⟨nm.toArray⟩, .string ⟨to.toArray⟩, .slice ba b.length bcp, .int .i64 n, .slice ka ks.length kcp, .int .i64 e] 34)) O (.pointer (some ⟨g, 0, none⟩)) s) := HW1.out ▸ HF.out
      have HO1' : Hid (∀ w', Onl O (w.alloc (.cells #[.int .i64 1, .string ⟨nm.toArray⟩, .string ⟨to.toArray⟩, .slice ba b.length bcp, .int .i64 n, .slice ka ks.length kcp, .int .i64 e] 34)) w' → SfOk w' ⟨1, nm, to, .slice ba b.length bcp, b, n, .slice ka ks.length kcp, ks, e⟩) := HW1.out ▸ HO1.out
      have HBE' : Hid (Below w.heap.size w (w.alloc (.cells #[.int .i64 1, .string ⟨nm.toArray⟩, .string ⟨to.toArray⟩, .slice ba b.length bcp, .int .i64 n, .slice ka ks.length kcp, .int .i64 e] 34))) := HW1.out ▸ HBE.out
      go_enter Try.func9, Try.ntmps9
      go_wp2_with (go_at_call 22; refine (HF'.out.append nm (.slice ba b.length bcp) b (by omega) (fun w' q => (HO1'.out w' q).rb)).mono ?_; rintro e' w2 hr; obtain ⟨he, hr2⟩ := hr; subst he)
      go_ret
      exact RfR.from (w1 := (w.alloc (.cells #[.int .i64 1, .string ⟨nm.toArray⟩, .string ⟨to.toArray⟩, .slice ba b.length bcp, .int .i64 n, .slice ka ks.length kcp, .int .i64 e] 34))) ⟨rfl, hr2⟩ HLT.out HBE'.out
    · rw [if_neg h1]
      by_cases h2 : k = 2
      · subst h2
        rw [if_pos rfl]
        have HF' : Hid (Rf (w.alloc (.cells #[.int .i64 2, .string ⟨nm.toArray⟩, .string ⟨to.toArray⟩, .slice ba b.length bcp, .int .i64 n, .slice ka ks.length kcp, .int .i64 e] 34)) O (.pointer (some ⟨g, 0, none⟩)) s) := HW1.out ▸ HF.out
        have HBE' : Hid (Below w.heap.size w (w.alloc (.cells #[.int .i64 2, .string ⟨nm.toArray⟩, .string ⟨to.toArray⟩, .slice ba b.length bcp, .int .i64 n, .slice ka ks.length kcp, .int .i64 e] 34))) := HW1.out ▸ HBE.out
        go_enter Try.func9, Try.ntmps9
        go_wp2_with (go_at_call 23; refine (HF'.out.sync nm).mono ?_; rintro e' w2 hr; obtain ⟨he, hr2⟩ := hr; subst he)
        go_ret
        exact RfR.from (w1 := (w.alloc (.cells #[.int .i64 2, .string ⟨nm.toArray⟩, .string ⟨to.toArray⟩, .slice ba b.length bcp, .int .i64 n, .slice ka ks.length kcp, .int .i64 e] 34))) ⟨rfl, hr2⟩ HLT.out HBE'.out
      · rw [if_neg h2]
        by_cases h3 : k = 3
        · subst h3
          rw [if_pos rfl]
          have HF' : Hid (Rf (w.alloc (.cells #[.int .i64 3, .string ⟨nm.toArray⟩, .string ⟨to.toArray⟩, .slice ba b.length bcp, .int .i64 n, .slice ka ks.length kcp, .int .i64 e] 34)) O (.pointer (some ⟨g, 0, none⟩)) s) := HW1.out ▸ HF.out
          have HBE' : Hid (Below w.heap.size w (w.alloc (.cells #[.int .i64 3, .string ⟨nm.toArray⟩, .string ⟨to.toArray⟩, .slice ba b.length bcp, .int .i64 n, .slice ka ks.length kcp, .int .i64 e] 34))) := HW1.out ▸ HBE.out
          go_enter Try.func9, Try.ntmps9
          go_wp2_with (go_at_call 24; refine (HF'.out.rename nm to (by omega) hpn).mono ?_; rintro e' w2 hr; obtain ⟨he, hr2⟩ := hr; subst he)
          go_ret
          exact RfR.from (w1 := (w.alloc (.cells #[.int .i64 3, .string ⟨nm.toArray⟩, .string ⟨to.toArray⟩, .slice ba b.length bcp, .int .i64 n, .slice ka ks.length kcp, .int .i64 e] 34))) ⟨rfl, hr2⟩ HLT.out HBE'.out
        · rw [if_neg h3]
          by_cases h4 : k = 4
          · subst h4
            rw [if_pos rfl]
            have HF' : Hid (Rf (w.alloc (.cells #[.int .i64 4, .string ⟨nm.toArray⟩, .string ⟨to.toArray⟩, .slice ba b.length bcp, .int .i64 n, .slice ka ks.length kcp, .int .i64 e] 34)) O (.pointer (some ⟨g, 0, none⟩)) s) := HW1.out ▸ HF.out
            have HBE' : Hid (Below w.heap.size w (w.alloc (.cells #[.int .i64 4, .string ⟨nm.toArray⟩, .string ⟨to.toArray⟩, .slice ba b.length bcp, .int .i64 n, .slice ka ks.length kcp, .int .i64 e] 34))) := HW1.out ▸ HBE.out
            go_enter Try.func9, Try.ntmps9
            go_wp2_with (go_at_call 25; refine (HF'.out.remove nm hpn).mono ?_; rintro e' w2 hr; obtain ⟨he, hr2⟩ := hr; subst he)
            go_ret
            exact RfR.from (w1 := (w.alloc (.cells #[.int .i64 4, .string ⟨nm.toArray⟩, .string ⟨to.toArray⟩, .slice ba b.length bcp, .int .i64 n, .slice ka ks.length kcp, .int .i64 e] 34))) ⟨rfl, hr2⟩ HLT.out HBE'.out
          · rw [if_neg h4]
            by_cases h5 : k = 5
            · subst h5
              rw [if_pos rfl]
              have HF' : Hid (Rf (w.alloc (.cells #[.int .i64 5, .string ⟨nm.toArray⟩, .string ⟨to.toArray⟩, .slice ba b.length bcp, .int .i64 n, .slice ka ks.length kcp, .int .i64 e] 34)) O (.pointer (some ⟨g, 0, none⟩)) s) := HW1.out ▸ HF.out
              have HBE' : Hid (Below w.heap.size w (w.alloc (.cells #[.int .i64 5, .string ⟨nm.toArray⟩, .string ⟨to.toArray⟩, .slice ba b.length bcp, .int .i64 n, .slice ka ks.length kcp, .int .i64 e] 34))) := HW1.out ▸ HBE.out
              go_enter Try.func9, Try.ntmps9
              go_wp2_with (go_at_call 26; refine (HF'.out.syncDir hpn).mono ?_; rintro e' w2 hr; obtain ⟨he, hr2⟩ := hr; subst he)
              go_ret
              exact RfR.from (w1 := (w.alloc (.cells #[.int .i64 5, .string ⟨nm.toArray⟩, .string ⟨to.toArray⟩, .slice ba b.length bcp, .int .i64 n, .slice ka ks.length kcp, .int .i64 e] 34))) ⟨rfl, hr2⟩ HLT.out HBE'.out
            · rw [if_neg h5]
              by_cases h6 : k = 6
              · subst h6
                rw [if_pos rfl]
                have HF' : Hid (Rf (w.alloc (.cells #[.int .i64 6, .string ⟨nm.toArray⟩, .string ⟨to.toArray⟩, .slice ba b.length bcp, .int .i64 n, .slice ka ks.length kcp, .int .i64 e] 34)) O (.pointer (some ⟨g, 0, none⟩)) s) := HW1.out ▸ HF.out
                have HO1' : Hid (∀ w', Onl O (w.alloc (.cells #[.int .i64 6, .string ⟨nm.toArray⟩, .string ⟨to.toArray⟩, .slice ba b.length bcp, .int .i64 n, .slice ka ks.length kcp, .int .i64 e] 34)) w' → SfOk w' ⟨6, nm, to, .slice ba b.length bcp, b, n, .slice ka ks.length kcp, ks, e⟩) := HW1.out ▸ HO1.out
                have HBE' : Hid (Below w.heap.size w (w.alloc (.cells #[.int .i64 6, .string ⟨nm.toArray⟩, .string ⟨to.toArray⟩, .slice ba b.length bcp, .int .i64 n, .slice ka ks.length kcp, .int .i64 e] 34))) := HW1.out ▸ HBE.out
                go_enter Try.func9, Try.ntmps9
                go_wp2_with (go_at_call 27; refine (HF'.out.crash n (.slice ka ks.length kcp) ks (fun w' q => (HO1'.out w' q).rk) hpn).mono ?_; rintro e' w2 hr; obtain ⟨⟨u, he⟩, hr2⟩ := hr; subst he)
                go_ret
                exact RfR.from (w1 := (w.alloc (.cells #[.int .i64 6, .string ⟨nm.toArray⟩, .string ⟨to.toArray⟩, .slice ba b.length bcp, .int .i64 n, .slice ka ks.length kcp, .int .i64 e] 34))) (r := (0, sfCrash s n ks)) ⟨rfl, hr2⟩ HLT.out HBE'.out
              · rw [if_neg h6]
                by_cases h7 : k = 7
                · subst h7
                  rw [if_pos rfl]
                  have HF' : Hid (Rf (w.alloc (.cells #[.int .i64 7, .string ⟨nm.toArray⟩, .string ⟨to.toArray⟩, .slice ba b.length bcp, .int .i64 n, .slice ka ks.length kcp, .int .i64 e] 34)) O (.pointer (some ⟨g, 0, none⟩)) s) := HW1.out ▸ HF.out
                  have HBE' : Hid (Below w.heap.size w (w.alloc (.cells #[.int .i64 7, .string ⟨nm.toArray⟩, .string ⟨to.toArray⟩, .slice ba b.length bcp, .int .i64 n, .slice ka ks.length kcp, .int .i64 e] 34))) := HW1.out ▸ HBE.out
                  go_enter Try.func9, Try.ntmps9
                  go_wp2_with (go_at_call 28; refine (HF'.out.fail n e hn2).mono ?_; rintro e' w2 hr; obtain ⟨he, hr2⟩ := hr; subst he)
                  go_ret
                  exact RfR.from (w1 := (w.alloc (.cells #[.int .i64 7, .string ⟨nm.toArray⟩, .string ⟨to.toArray⟩, .slice ba b.length bcp, .int .i64 n, .slice ka ks.length kcp, .int .i64 e] 34))) ⟨rfl, hr2⟩ HLT.out HBE'.out
                · rw [if_neg h7]
                  have i0 : (k == 0) = false := by simpa using h0
                  have i1 : (k == 1) = false := by simpa using h1
                  have i2 : (k == 2) = false := by simpa using h2
                  have i3 : (k == 3) = false := by simpa using h3
                  have i4 : (k == 4) = false := by simpa using h4
                  have i5 : (k == 5) = false := by simpa using h5
                  have i6 : (k == 6) = false := by simpa using h6
                  have i7 : (k == 7) = false := by simpa using h7
                  have HBE' : Hid (Below w.heap.size w (w.alloc (.cells #[.int .i64 k, .string ⟨nm.toArray⟩, .string ⟨to.toArray⟩, .slice ba b.length bcp, .int .i64 n, .slice ka ks.length kcp, .int .i64 e] 34))) := HW1.out ▸ HBE.out
                  have HF' : Hid (Rf (w.alloc (.cells #[.int .i64 k, .string ⟨nm.toArray⟩, .string ⟨to.toArray⟩, .slice ba b.length bcp, .int .i64 n, .slice ka ks.length kcp, .int .i64 e] 34)) O (.pointer (some ⟨g, 0, none⟩)) s) := HW1.out ▸ HF.out
                  go_enter Try.func9, Try.ntmps9
                  go_wp2_with fail
                  go_ret
                  exact ⟨rfl, HF'.out.wider (fun _ q => .inl q) (Grw.lt HLT.out HBE'.out.size), onl_of_below HBE'.out⟩
end Go.Proofs.Ytijablmejjepaaa
