/- law11: call, of a file system. (written by mksfq.py) -/
import Derived.Test.YtijablmejjepaaaSFP
namespace Go.Proofs.Ytijablmejjepaaa
open Go.RowKit Go.Maps Go.Sort

theorem FsR.from {w w1 : World} {O : Nat → Prop} {p : Value} {r : Int × SfS} {e : Ending} {w' : World} (h : FsR w1 O p r e w') (h0 : ∀ k, O k → k < w.heap.size) (hb : Below w.heap.size w w1) : FsR w O p r e w' := by
  obtain ⟨h1, h2, h3⟩ := h
  have hs := hb.size
  have hs' := h3.size
  refine ⟨h1, h2.wider (fun k q => ?_) (Grw.lt h0 (by omega)), (onl_of_below hb).then h3⟩
  rcases q with q | q
  · exact .inl q
  · exact .inr ⟨by omega, q.2⟩
theorem turn_b {W : World} {base : Nat} {n cap g : Nat} {l : List UInt8} (h : Own W base (.slice (some ⟨g, 0, none⟩) n cap) l) {j : Nat} (h0 : j < l.length) : ∃ x y : UInt8, W.cell? ⟨g, j, none⟩ = some (.int .u8 (x.toNat : Int)) ∧ W.frozen? ⟨g, j, none⟩ = false ∧ bits .xor .u8 (x.toNat : Int) 255 = (y.toNat : Int) := by
  obtain ⟨h1, h2⟩ := h.at j h0
  have hx := (l[j]).toNat_lt
  have hxl : (l[j]).toNat ^^^ 255 < 2 ^ 8 := Nat.xor_lt_two_pow hx (by decide)
  have ey : (UInt8.ofNat ((l[j]).toNat ^^^ 255)).toNat = (l[j]).toNat ^^^ 255 := by rw [UInt8.toNat_ofNat', Nat.mod_eq_of_lt hxl]
  exact ⟨l[j], UInt8.ofNat ((l[j]).toNat ^^^ 255), h1, h2, by rw [ey]; exact u8_xor_nat _ 255 hx (by decide)⟩
theorem bk {k m : Int} (h : k = m) {n : Int} (hn : (m == n) = false) : (k == n) = false := by rw [h]; exact hn
set_option maxRecDepth 100000 in
set_option maxHeartbeats 8000000 in
theorem call_any {w : World} {O : Nat → Prop} {p : Value} {s : SfS} (h : Fs w O p s) (o : SfO) (ho : ∀ w', Onl O w w' → SfOk w' o) (hbl : o.b.length ≤ 140737488355328) (hpn : s.pend.length < 1099511627776) : Calls Try.prog 8 #[p, .agg (o7 o).toArray] w (FsR w O p (sfCall s o)) := by
  obtain ⟨g, rfl⟩ := h.ptr
  have hlt := h.lt
  have h0 := ho w (Onl.refl _ _)
  obtain ⟨k, nm, to, bv, b, n, kv, ks, e⟩ := o
  obtain ⟨ba, bcp, hbv, -⟩ := h0.rb.form
  obtain ⟨ka, kcp, hkv, -⟩ := h0.rk.form
  simp only at hbv hkv hbl
  subst hbv hkv
  have hn := h0.l1
  have ht := h0.l2
  have hn2 := h0.n2
  simp only at hn ht hn2
  unfold o7
  simp only
  have hbe : Below w.heap.size w (w.alloc (.cells #[.int .i64 k, .string ⟨nm.toArray⟩, .string ⟨to.toArray⟩, .slice ba b.length bcp, .int .i64 n, .slice ka ks.length kcp, .int .i64 e] 34)) := (Below.refl _ _).alloc (Nat.le_refl _) _
  have hx := heap_alloc_new w (.cells #[.int .i64 k, .string ⟨nm.toArray⟩, .string ⟨to.toArray⟩, .slice ba b.length bcp, .int .i64 n, .slice ka ks.length kcp, .int .i64 e] 34)
  have hF := h.below hbe
  have hon : Onl O w (w.alloc (.cells #[.int .i64 k, .string ⟨nm.toArray⟩, .string ⟨to.toArray⟩, .slice ba b.length bcp, .int .i64 n, .slice ka ks.length kcp, .int .i64 e] 34)) := onl_of_below hbe
  have HO1 : Hid (∀ w', Onl O (w.alloc (.cells #[.int .i64 k, .string ⟨nm.toArray⟩, .string ⟨to.toArray⟩, .slice ba b.length bcp, .int .i64 n, .slice ka ks.length kcp, .int .i64 e] 34)) w' → SfOk w' ⟨k, nm, to, .slice ba b.length bcp, b, n, .slice ka ks.length kcp, ks, e⟩) := fun w' q => ho w' (hon.then q)
  have HSZ : Hid (w.heap.size < (w.alloc (.cells #[.int .i64 k, .string ⟨nm.toArray⟩, .string ⟨to.toArray⟩, .slice ba b.length bcp, .int .i64 n, .slice ka ks.length kcp, .int .i64 e] 34)).heap.size) := by show _ < _; simp
  obtain ⟨w1, HW1⟩ := hid_ex (w.alloc (.cells #[.int .i64 k, .string ⟨nm.toArray⟩, .string ⟨to.toArray⟩, .slice ba b.length bcp, .int .i64 n, .slice ka ks.length kcp, .int .i64 e] 34))
  rw [← HW1.out] at hbe hx hF hon HO1 HSZ
  have HX : Hid (w1.heap[w.heap.size]? = some (.cells #[.int .i64 k, .string ⟨nm.toArray⟩, .string ⟨to.toArray⟩, .slice ba b.length bcp, .int .i64 n, .slice ka ks.length kcp, .int .i64 e] 34)) := hx
  have HF : Hid (Fs w1 O (.pointer (some ⟨g, 0, none⟩)) s) := hF
  have HBE : Hid (Below w.heap.size w w1) := hbe
  have HLT : Hid (∀ k, O k → k < w.heap.size) := hlt
  clear h ho h0 hlt hbe hx hF hon
  unfold sfCall
  simp only
  by_cases h0 : k = 0
  · subst h0
    rw [if_pos rfl]
    have HF' : Hid (Fs (w.alloc (.cells #[.int .i64 0, .string ⟨nm.toArray⟩, .string ⟨to.toArray⟩, .slice ba b.length bcp, .int .i64 n, .slice ka ks.length kcp, .int .i64 e] 34)) O (.pointer (some ⟨g, 0, none⟩)) s) := HW1.out ▸ HF.out
    have HBE' : Hid (Below w.heap.size w (w.alloc (.cells #[.int .i64 0, .string ⟨nm.toArray⟩, .string ⟨to.toArray⟩, .slice ba b.length bcp, .int .i64 n, .slice ka ks.length kcp, .int .i64 e] 34))) := HW1.out ▸ HBE.out
    go_enter Try.func8, Try.ntmps8
    go_wp2_with (go_at_call 11; refine (HF'.out.create nm hn hpn).mono ?_; rintro e' w2 hr; obtain ⟨he, hr2⟩ := hr; subst he)
    go_ret
    exact FsR.from (w1 := (w.alloc (.cells #[.int .i64 0, .string ⟨nm.toArray⟩, .string ⟨to.toArray⟩, .slice ba b.length bcp, .int .i64 n, .slice ka ks.length kcp, .int .i64 e] 34))) ⟨rfl, hr2⟩ HLT.out HBE'.out
  · rw [if_neg h0]
    by_cases h1 : k = 1
    · subst h1
      rw [if_pos rfl]
      obtain ⟨R, HR⟩ := hid_ex (sfAppend s nm b)
      rw [← HR.out]
      have HCY : Hid (Calls Try.prog 17 #[.slice ba b.length bcp] w1 fun e w' => ∃ v', e = .returned v' ∧ Own w' w1.heap.size v' b ∧ Below w1.heap.size w1 w') := copy5_any (HO1.out w1 (Onl.refl _ _)).rb hbl
      have HX1 := HX
      rw [HW1.out] at HCY
      go_enter Try.func8, Try.ntmps8
      go_wp2_with fail
      refine HCY.out.mono ?_
      rintro e1 w2 ⟨ov, rfl, hown, hb2⟩
      rw [← HW1.out] at hown hb2
      obtain ⟨oa, oc, hov, -⟩ := hown.form
      subst hov
      have HB2 : Hid (Below w1.heap.size w1 w2) := hb2
      have HOW : Hid (Own w2 w1.heap.size (.slice oa b.length oc) b) := hown
      have HF2 : Hid (Fs w2 O (.pointer (some ⟨g, 0, none⟩)) s) := HF.out.below hb2
      have y1 := cell_of ((hb2.block _ (Array.getElem?_eq_some_iff.1 HX.out).1).trans HX.out) 1 _ rfl
      have HRD : Hid (∀ w', Onl O w2 w' → Reads w' (.slice oa b.length oc) b) := fun w' q => (own_keepB HOW.out (fun k hk hl => q.block k hl (fun z => by have := HLT.out k z; have := HSZ.out; omega))).reads
      clear hown hb2 HCY
      go_wp2_with (go_at_call 12; refine (HF2.out.append nm hn (.slice oa b.length oc) b HRD.out).mono ?_; rintro e' w3 hr; obtain ⟨he, hf3, ho3⟩ := hr; subst he)
      rw [← HR.out] at hf3 ⊢
      have HF3 : Hid (Fs w3 (Grw O w2 w3) (.pointer (some ⟨g, 0, none⟩)) R.2) := hf3
      have HO3 : Hid (Onl O w2 w3) := ho3
      have HOW3 : Hid (Own w3 w1.heap.size (.slice oa b.length oc) b) := own_keepB HOW.out (fun k hk hl => ho3.block k hl (fun z => by have := HLT.out k z; have := HSZ.out; omega))
      have HON : Hid (Onl O w w3) := ((onl_of_below HBE.out).then (onl_of_below HB2.out)).then ho3
      have HGG : Hid (∀ k, w1.heap.size ≤ k → k < w2.heap.size → ¬ Grw O w2 w3 k) := fun k h1 h2 q => q.elim (fun z => by have := HLT.out k z; have := HSZ.out; omega) (fun z => by omega)
      have HOL : Hid (∀ k, (Value.slice oa b.length oc).ownBlock = some k → w1.heap.size ≤ k ∧ k < w2.heap.size) := fun k hk => World.ownsRow.lt HOW.out k hk
      clear hf3 ho3 HRD y1 HF2 HOW HF
      go_loopw [7] (fun i wr => ∃ (j : Nat) (l' : List UInt8), i = .int .i64 (j : Int) ∧ j ≤ b.length ∧ Hid (l'.length = b.length) ∧ Hid (Own wr w1.heap.size (.slice oa b.length oc) l') ∧ Hid (Fs wr (Grw O w2 w3) (.pointer (some ⟨g, 0, none⟩)) R.2) ∧ Hid (Onl O w wr)) (fun i _ => b.length - (intOf i).toNat)
      case atStart => exact ⟨0, b, rfl, by omega, rfl, HOW3, HF3, HON⟩
      case round =>
        obtain ⟨j, l', rfl, hj, HL, HOO, HFF, HNN⟩ := hrel
        by_cases hlt : j < b.length
        · have hlt' : (j : Int) < (b.length : Int) := by omega
          have hjl : j < l'.length := by rw [HL.out]; exact hlt
          obtain ⟨og, oc', hov, -⟩ := HOO.out.some (by omega)
          simp at hov
          obtain ⟨rfl, -, -⟩ := hov
          obtain ⟨hk1, hk2⟩ := HOL.out og rfl
          obtain ⟨x, y, i1, i2, i3⟩ := turn_b HOO.out hjl
          have HST := (HOO.out.stored j y)
          have HO4 : Hid (Own (wr.setCell ⟨og, j, none⟩ (.int .u8 (y.toNat : Int))) w1.heap.size (.slice (some ⟨og, 0, none⟩) b.length oc) (l'.set j y)) := HST.1
          have HL4 : Hid ((l'.set j y).length = b.length) := (List.length_set ..).trans HL.out
          have HF4 : Hid (Fs (wr.setCell ⟨og, j, none⟩ (.int .u8 (y.toNat : Int))) (Grw O w2 w3) (.pointer (some ⟨g, 0, none⟩)) R.2) := HFF.out.keep (fun k q => Below.heap_setCell _ _ _ _ (fun e => HGG.out og hk1 hk2 ((show k = og from e) ▸ q))) (by simp [World.setCell])
          have HN4 : Hid (Onl O w (wr.setCell ⟨og, j, none⟩ (.int .u8 (y.toNat : Int)))) := ⟨HNN.out.os, HNN.out.tape, HNN.out.output, by simpa [World.setCell] using HNN.out.size, fun k hk q => by
            have hne : k ≠ og := by have := HSZ.out; omega
            rw [Below.heap_setCell _ _ _ _ hne]; exact HNN.out.block k hk q⟩
          clear HST
          go_wp2_with fail
          go_roundw
          case rel => exact ⟨j + 1, l'.set j y, by go_num, by omega, HL4, HO4, HF4, HN4⟩
          case measure => simp [intOf]; omega
        · have hlt' : ¬ (j : Int) < (b.length : Int) := by omega
          have HEN : Hid (FsR w O (.pointer (some ⟨g, 0, none⟩)) R (.returned (.int .i64 R.1)) wr) := by
            refine ⟨rfl, HFF.out.wider (fun k q => ?_) (Grw.lt HLT.out HNN.out.size), HNN.out⟩
            rcases q with q | q
            · exact .inl q
            · exact .inr ⟨by have := HBE.out.size; have := HB2.out.size; omega, HFF.out.lt k (.inr q)⟩
          go_wp2_with fail
          go_ret
          exact HEN.out
    · rw [if_neg h1]
      by_cases h2 : k = 2
      · subst h2
        rw [if_pos rfl]
        have HF' : Hid (Fs (w.alloc (.cells #[.int .i64 2, .string ⟨nm.toArray⟩, .string ⟨to.toArray⟩, .slice ba b.length bcp, .int .i64 n, .slice ka ks.length kcp, .int .i64 e] 34)) O (.pointer (some ⟨g, 0, none⟩)) s) := HW1.out ▸ HF.out
        have HBE' : Hid (Below w.heap.size w (w.alloc (.cells #[.int .i64 2, .string ⟨nm.toArray⟩, .string ⟨to.toArray⟩, .slice ba b.length bcp, .int .i64 n, .slice ka ks.length kcp, .int .i64 e] 34))) := HW1.out ▸ HBE.out
        go_enter Try.func8, Try.ntmps8
        go_wp2_with (go_at_call 13; refine (HF'.out.sync nm hn).mono ?_; rintro e' w2 hr; obtain ⟨he, hr2⟩ := hr; subst he)
        go_ret
        exact FsR.from (w1 := (w.alloc (.cells #[.int .i64 2, .string ⟨nm.toArray⟩, .string ⟨to.toArray⟩, .slice ba b.length bcp, .int .i64 n, .slice ka ks.length kcp, .int .i64 e] 34))) ⟨rfl, hr2⟩ HLT.out HBE'.out
      · rw [if_neg h2]
        by_cases h3 : k = 3
        · subst h3
          rw [if_pos rfl]
          have HF' : Hid (Fs (w.alloc (.cells #[.int .i64 3, .string ⟨nm.toArray⟩, .string ⟨to.toArray⟩, .slice ba b.length bcp, .int .i64 n, .slice ka ks.length kcp, .int .i64 e] 34)) O (.pointer (some ⟨g, 0, none⟩)) s) := HW1.out ▸ HF.out
          have HBE' : Hid (Below w.heap.size w (w.alloc (.cells #[.int .i64 3, .string ⟨nm.toArray⟩, .string ⟨to.toArray⟩, .slice ba b.length bcp, .int .i64 n, .slice ka ks.length kcp, .int .i64 e] 34))) := HW1.out ▸ HBE.out
          go_enter Try.func8, Try.ntmps8
          go_wp2_with (go_at_call 18; refine (HF'.out.rename nm to hn ht hpn).mono ?_; rintro e' w2 hr; obtain ⟨he, hr2⟩ := hr; subst he)
          go_ret
          exact FsR.from (w1 := (w.alloc (.cells #[.int .i64 3, .string ⟨nm.toArray⟩, .string ⟨to.toArray⟩, .slice ba b.length bcp, .int .i64 n, .slice ka ks.length kcp, .int .i64 e] 34))) ⟨rfl, hr2⟩ HLT.out HBE'.out
        · rw [if_neg h3]
          by_cases h4 : k = 4
          · subst h4
            rw [if_pos rfl]
            have HF' : Hid (Fs (w.alloc (.cells #[.int .i64 4, .string ⟨nm.toArray⟩, .string ⟨to.toArray⟩, .slice ba b.length bcp, .int .i64 n, .slice ka ks.length kcp, .int .i64 e] 34)) O (.pointer (some ⟨g, 0, none⟩)) s) := HW1.out ▸ HF.out
            have HBE' : Hid (Below w.heap.size w (w.alloc (.cells #[.int .i64 4, .string ⟨nm.toArray⟩, .string ⟨to.toArray⟩, .slice ba b.length bcp, .int .i64 n, .slice ka ks.length kcp, .int .i64 e] 34))) := HW1.out ▸ HBE.out
            go_enter Try.func8, Try.ntmps8
            go_wp2_with (go_at_call 19; refine (HF'.out.remove nm hn hpn).mono ?_; rintro e' w2 hr; obtain ⟨he, hr2⟩ := hr; subst he)
            go_ret
            exact FsR.from (w1 := (w.alloc (.cells #[.int .i64 4, .string ⟨nm.toArray⟩, .string ⟨to.toArray⟩, .slice ba b.length bcp, .int .i64 n, .slice ka ks.length kcp, .int .i64 e] 34))) ⟨rfl, hr2⟩ HLT.out HBE'.out
          · rw [if_neg h4]
            by_cases h5 : k = 5
            · subst h5
              rw [if_pos rfl]
              have HF' : Hid (Fs (w.alloc (.cells #[.int .i64 5, .string ⟨nm.toArray⟩, .string ⟨to.toArray⟩, .slice ba b.length bcp, .int .i64 n, .slice ka ks.length kcp, .int .i64 e] 34)) O (.pointer (some ⟨g, 0, none⟩)) s) := HW1.out ▸ HF.out
              have HBE' : Hid (Below w.heap.size w (w.alloc (.cells #[.int .i64 5, .string ⟨nm.toArray⟩, .string ⟨to.toArray⟩, .slice ba b.length bcp, .int .i64 n, .slice ka ks.length kcp, .int .i64 e] 34))) := HW1.out ▸ HBE.out
              go_enter Try.func8, Try.ntmps8
              go_wp2_with (go_at_call 14; refine (HF'.out.syncDir).mono ?_; rintro e' w2 hr; obtain ⟨he, hr2⟩ := hr; subst he)
              go_ret
              exact FsR.from (w1 := (w.alloc (.cells #[.int .i64 5, .string ⟨nm.toArray⟩, .string ⟨to.toArray⟩, .slice ba b.length bcp, .int .i64 n, .slice ka ks.length kcp, .int .i64 e] 34))) ⟨rfl, hr2⟩ HLT.out HBE'.out
            · rw [if_neg h5]
              by_cases h6 : k = 6
              · subst h6
                rw [if_pos rfl]
                have HF' : Hid (Fs (w.alloc (.cells #[.int .i64 6, .string ⟨nm.toArray⟩, .string ⟨to.toArray⟩, .slice ba b.length bcp, .int .i64 n, .slice ka ks.length kcp, .int .i64 e] 34)) O (.pointer (some ⟨g, 0, none⟩)) s) := HW1.out ▸ HF.out
                have HO1' : Hid (∀ w', Onl O (w.alloc (.cells #[.int .i64 6, .string ⟨nm.toArray⟩, .string ⟨to.toArray⟩, .slice ba b.length bcp, .int .i64 n, .slice ka ks.length kcp, .int .i64 e] 34)) w' → SfOk w' ⟨6, nm, to, .slice ba b.length bcp, b, n, .slice ka ks.length kcp, ks, e⟩) := HW1.out ▸ HO1.out
                have HBE' : Hid (Below w.heap.size w (w.alloc (.cells #[.int .i64 6, .string ⟨nm.toArray⟩, .string ⟨to.toArray⟩, .slice ba b.length bcp, .int .i64 n, .slice ka ks.length kcp, .int .i64 e] 34))) := HW1.out ▸ HBE.out
                go_enter Try.func8, Try.ntmps8
                go_wp2_with (go_at_call 15; refine (HF'.out.crash n (.slice ka ks.length kcp) ks (fun w' q => (HO1'.out w' q).rk)).mono ?_; rintro e' w2 hr; obtain ⟨he, hr2⟩ := hr; subst he)
                go_ret
                exact FsR.from (w1 := (w.alloc (.cells #[.int .i64 6, .string ⟨nm.toArray⟩, .string ⟨to.toArray⟩, .slice ba b.length bcp, .int .i64 n, .slice ka ks.length kcp, .int .i64 e] 34))) ⟨rfl, hr2⟩ HLT.out HBE'.out
              · rw [if_neg h6]
                by_cases h7 : k = 7
                · subst h7
                  rw [if_pos rfl]
                  have HF' : Hid (Fs (w.alloc (.cells #[.int .i64 7, .string ⟨nm.toArray⟩, .string ⟨to.toArray⟩, .slice ba b.length bcp, .int .i64 n, .slice ka ks.length kcp, .int .i64 e] 34)) O (.pointer (some ⟨g, 0, none⟩)) s) := HW1.out ▸ HF.out
                  have HBE' : Hid (Below w.heap.size w (w.alloc (.cells #[.int .i64 7, .string ⟨nm.toArray⟩, .string ⟨to.toArray⟩, .slice ba b.length bcp, .int .i64 n, .slice ka ks.length kcp, .int .i64 e] 34))) := HW1.out ▸ HBE.out
                  go_enter Try.func8, Try.ntmps8
                  go_wp2_with (go_at_call 20; refine (HF'.out.fail n e hn2).mono ?_; rintro e' w2 hr; obtain ⟨he, hr2⟩ := hr; subst he)
                  go_ret
                  exact FsR.from (w1 := (w.alloc (.cells #[.int .i64 7, .string ⟨nm.toArray⟩, .string ⟨to.toArray⟩, .slice ba b.length bcp, .int .i64 n, .slice ka ks.length kcp, .int .i64 e] 34))) ⟨rfl, hr2⟩ HLT.out HBE'.out
                · rw [if_neg h7]
                  have i0 : (k == 0) = false := by simpa using h0
                  have i1 : (k == 1) = false := by simpa using h1
                  have i2 : (k == 2) = false := by simpa using h2
                  have i3 : (k == 3) = false := by simpa using h3
                  have i4 : (k == 4) = false := by simpa using h4
                  have i5 : (k == 5) = false := by simpa using h5
                  have i6 : (k == 6) = false := by simpa using h6
                  have i7 : (k == 7) = false := by simpa using h7
                  have HBE' : Hid (Below w.heap.size w (w.alloc (.cells #[.int .i64 k, .string ⟨nm.toArray⟩, .string ⟨to.toArray⟩, .slice ba b.length bcp, .int .i64 n, .slice ka ks.length kcp, .int .i64 e] 34))) := HW1.out ▸ HBE.out
                  have HF' : Hid (Fs (w.alloc (.cells #[.int .i64 k, .string ⟨nm.toArray⟩, .string ⟨to.toArray⟩, .slice ba b.length bcp, .int .i64 n, .slice ka ks.length kcp, .int .i64 e] 34)) O (.pointer (some ⟨g, 0, none⟩)) s) := HW1.out ▸ HF.out
                  go_enter Try.func8, Try.ntmps8
                  go_wp2_with fail
                  go_ret
                  exact ⟨rfl, HF'.out.wider (fun _ q => .inl q) (Grw.lt HLT.out HBE'.out.size), onl_of_below HBE'.out⟩
end Go.Proofs.Ytijablmejjepaaa
