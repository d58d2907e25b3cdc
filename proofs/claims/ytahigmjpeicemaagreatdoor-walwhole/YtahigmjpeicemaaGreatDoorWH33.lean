/- WWh, joined. -/
import Derived.Test.YtahigmjpeicemaaGreatDoorWH31
import Derived.Test.YtahigmjpeicemaaGreatDoorWH32
/- WalWhole's walk (written by mkwwh.py). -/
namespace Go.Proofs.YtahigmjpeicemaaGreatDoor
open Go.RowKit Go.Shelf

theorem kreads_below {w w' : World} {v : Value} {ks : List Int} (h : KReads w v ks) (hb : Below w.heap.size w w') : KReads w' v ks := h.keepB (fun k _ hl => hb.block k hl) hb.size
set_option maxRecDepth 100000 in
set_option maxHeartbeats 40000000 in
theorem whole_walk (v0v : Value) (A : List Rc) (v1v : Value) (B : List Rc) (ops : Int) (kv : Value) (ks : List Int) (W : World) (hA : RsR W v0v A) (hB : RsR W v1v B) (hK : KReads W kv ks) :
    Calls Tryz.prog 6 #[v0v, v1v, .int .i64 ops, kv] W fun e w' => e = .returned (.bool true) ∧ Below W.heap.size W w' := by
  obtain ⟨v0, v0c, rfl, hm0⟩ := hA.form
  obtain ⟨v1, v1c, rfl, hm1⟩ := hB.form
  obtain ⟨ka, kc, rfl, hmk⟩ : ∃ a cap, kv = .slice a ks.length cap ∧ ks.length ≤ maxLen := by
    obtain ⟨a, cap, h1, h2, _⟩ := hK
    exact ⟨a, cap, h1, h2⟩
  unfold maxLen at hm0 hm1 hmk
  have HA : Hid (RsR W (.slice v0 A.length v0c) A) := hA
  have HB : Hid (RsR W (.slice v1 B.length v1c) B) := hB
  have HK : Hid (KReads W (.slice ka ks.length kc) ks) := hK
  clear hA hB hK
  by_cases h12 : (12 : Int) < (A.length : Int)
  · go_enter Tryz.func6, Tryz.ntmps6
    go_wp2_with fail
    refine (alive12_any _).mono ?_
    rintro e w1 ⟨rfl, hb1⟩
    go_wp2_with fail
    go_ret
    exact ⟨rfl, hb1⟩
  by_cases h13 : (12 : Int) < (B.length : Int)
  · go_enter Tryz.func6, Tryz.ntmps6
    go_wp2_with fail
    refine (alive12_any _).mono ?_
    rintro e w1 ⟨rfl, hb1⟩
    go_wp2_with fail
    go_ret
    exact ⟨rfl, hb1⟩
  by_cases h14 : (100 : Int) < (ks.length : Int)
  · go_enter Tryz.func6, Tryz.ntmps6
    go_wp2_with fail
    refine (alive12_any _).mono ?_
    rintro e w1 ⟨rfl, hb1⟩
    go_wp2_with fail
    go_ret
    exact ⟨rfl, hb1⟩
  obtain ⟨M, HM⟩ := hid_ex (A ++ B)
  have hMl : M.length = A.length + B.length := by rw [HM.out, List.length_append]
  have HMo : Hid (∀ x ∈ M, RcOk W x) := fun x hx => by
    rw [HM.out] at hx
    rcases List.mem_append.1 hx with h | h
    · exact HA.out.ok x h
    · exact HB.out.ok x h
  have HPb : Hid (∀ x ∈ M, ∀ f ∈ x.p, FcB f) := fun x hx => (HMo.out x hx).pb
  obtain ⟨FA, HFA⟩ := hid_ex (cat (wrs A)).length
  obtain ⟨SY, hSY0, hSY1⟩ : ∃ SY : Nat → Nat, (∀ k, k ≤ A.length → SY k = 0) ∧ (∀ k, A.length < k → SY k = FA) := ⟨fun k => if k ≤ A.length then 0 else FA, fun k h => if_pos h, fun k h => if_neg (by omega)⟩
  go_enter Tryz.func6, Tryz.ntmps6
  go_wp2_with fail
  refine (fs_new 1048576 _ (by omega) (by omega)).mono ?_
  rintro e w1 ⟨p, rfl, hf1, hb1⟩
  obtain ⟨g0, rfl⟩ := hf1.ptr
  have HF1 : Hid (Fs w1 (fun k => W.heap.size ≤ k ∧ k < w1.heap.size) (.pointer (some ⟨g0, 0, none⟩)) (sfZ 1048576)) := hf1
  have HB1 : Hid (Below W.heap.size W w1) := hb1
  clear hf1 hb1
  go_wp2_with fail
  refine (start_any HF1.out 1 (by show (0 : Nat) < _; decide) (.inl (by decide))).mono ?_
  rintro e w2 ⟨lgv, O2, rfl, hf2, hg2, ho2, hlg⟩
  rw [sg_start (by decide)] at hf2 hlg ⊢
  simp only at hf2 hlg ⊢
  obtain ⟨nm, HNm⟩ := hid_ex (nmF seg 1)
  rw [← HNm.out] at hf2 hlg
  have HNl : Hid (nm.length ≤ maxLen) := by unfold Hid; rw [HNm.out]; have := nm_len (n := 1); unfold maxLen; omega
  rcases hlg with ⟨h0, _⟩ | ⟨_, g, rfl, hlg, hgo, hgs⟩
  · exact absurd rfl h0
  have HI0 : Hid (RwI W 1048576 (.pointer (some ⟨g0, 0, none⟩)) g nm 0 (.slice none 0 0) (cat (wrs (M.take 0))) (M.take 0) O2 w2) := by
    have hb2 := HB1.out.trans (ho2.below HB1.out.size (fun k hk => hk.1))
    refine ⟨hf2, fun k hk => ?_, hlg, hgo, GOwn.nil _ _ _, fun k hk => by simp [Value.ownBlock] at hk, hb2⟩
    rcases hg2 k hk with q | q
    · exact q.1
    · have := HB1.out.size; omega
  clear hf2 hg2 ho2 hlg hgo hgs HF1
  go_wp2_with fail
  go_loopw [13, 14] (fun o i wr => ∃ (k : Nat) (O : Nat → Prop), i = .int .i64 (k : Int) ∧ k ≤ A.length + B.length ∧ Hid (rgt (M.take k)) ∧ Hid (RwI W 1048576 (.pointer (some ⟨g0, 0, none⟩)) g nm (SY k) o (cat (wrs (M.take k))) (M.take k) O wr)) (fun _ i _ => A.length + B.length - (intOf i).toNat)
  case atStart => exact ⟨0, O2, rfl, by omega, fun x hx => by simp at hx, by rw [hSY0 0 (by omega)]; exact HI0⟩
  case round =>
    obtain ⟨k, O, rfl, hk, HRg, HI⟩ := hrel
    obtain ⟨fb, HFb⟩ := hid_ex (cat (wrs (M.take k)))
    obtain ⟨C, HC⟩ := hid_ex (M.take k)
    have hCl : C.length = k := by rw [HC.out, List.length_take]; omega
    have hfl0 : fb.length ≤ 2708 * k := by
      have h1 := cat_len (M.take k) HRg.out
      rw [← HFb.out, ← HC.out, hCl] at h1
      exact h1
    rw [← HFb.out, ← HC.out] at HI
    rw [← HC.out] at HRg HFb
    obtain ⟨oa, oc, hov, hoc1, -⟩ := GOwn.form HI.out.ow
    rw [hCl] at hov hoc1
    subst hov
    by_cases hlt : k < A.length + B.length
    · have hlt' : (k : Int) < (A.length : Int) + (B.length : Int) := by omega
      rcases Nat.lt_trichotomy k A.length with hka | hka | hka
      · have i1 : (k : Int) < (A.length : Int) := by omega
        have i2 : ¬ (k : Int) = (A.length : Int) := by omega
        rw [hSY0 k (by omega)] at HI
        obtain ⟨x, Hx⟩ := hid_ex A[k]
        obtain ⟨b, off, rfl, hbw, c0, c1, hok⟩ := HA.out.two hka Hx.out
        obtain ⟨xa, xc, hxv, _⟩ := hok.f.form
        have HOk : Hid (RcOk W x) := hok
        have HXs : Hid (∃ a n c, x.v = .slice a n c) := hok.slice
        have HMk : Hid (M.take (k + 1) = C ++ [x]) := by
          unfold Hid
          rw [HC.out, List.take_add_one, List.getElem?_eq_getElem (by rw [hMl]; omega)]
          have : M[k]'(by rw [hMl]; omega) = x := by
            rw [Hx.out]
            have e : ∀ (N : List Rc) (h : N = A ++ B) (q : k < N.length), N[k] = A[k]'(hka) := fun N h q => by
              subst h
              exact List.getElem_append_left hka
            exact e M HM.out _
          rw [this]; rfl
        have HFs : Hid (cat (wrs (M.take (k + 1))) = fb ++ frm (wrR x.p x.m)) := by unfold Hid; rw [HMk.out, wrs_snoc, ← HFb.out]
        have HGr : Hid (∀ w, RcOk w x → Calls Tryz.prog 16 #[x.val] w (GrPost w)) := fun w hw => great_any x w hw
        have HAd : Hid (∀ sy w, RcOk w x → RwI W 1048576 (.pointer (some ⟨g0, 0, none⟩)) g nm sy (.slice oa k oc) fb C O w → Calls Tryz.prog 20 #[.pointer (some ⟨g, 0, none⟩), x.val] w (AdPost w O (.pointer (some ⟨g0, 0, none⟩)) (lgAdd (SgS 1048576 nm fb sy) nm x))) := fun sy w hw hi => logAdd_any hi.fs hi.lg hi.go HNl.out x hw
        have HXv2 : Hid (x.val = .agg #[.slice xa x.fs.length xc, .int .i64 x.m]) := by unfold Hid Rc.val; rw [hxv]
        rw [HXv2.out] at HGr HAd
        rw [hxv] at c0
        have HXv : Hid (x.v = .slice xa x.fs.length xc) := hxv
        have HC0 : Hid (W.cell? ⟨b, off + k * 2, none⟩ = some (.slice xa x.fs.length xc)) := c0
        have HC1 : Hid (W.cell? ⟨b, off + k * 2 + 1, none⟩ = some (.int .i64 x.m)) := c1
        have HBw : Hid (b < W.heap.size) := hbw
        generalize x.fs.length = xn at *
        obtain ⟨xm, HXm⟩ := hid_ex x.m
        rw [← HXm.out] at HC1 HGr HAd
        clear hok hxv c0 c1 HXv2 Hx hbw
        have HIz := HI.out.below ((Below.refl _ _).alloc (Nat.le_refl _) (.cells #[.slice none 0 0, .int .i64 0] 43))
        have c0 := (HIz.be.cell (p := ⟨b, off + k * 2, none⟩) HBw.out).trans HC0.out
        have c1 := (HIz.be.cell (p := ⟨b, off + k * 2 + 1, none⟩) HBw.out).trans HC1.out
        clear HIz
        go_wp2_with fail
        have HBa : Hid (Below wr.heap.size wr (wr.alloc (.cells #[.slice xa xn xc, .int .i64 xm] 43))) := (Below.refl _ _).alloc (Nat.le_refl _) _
        have HIb : Hid (RwI W 1048576 (.pointer (some ⟨g0, 0, none⟩)) g nm 0 (.slice oa k oc) fb C O (wr.alloc (.cells #[.slice xa xn xc, .int .i64 xm] 43))) := HI.out.below HBa.out
        have HXb : Hid ((wr.alloc (.cells #[.slice xa xn xc, .int .i64 xm] 43)).heap[wr.heap.size]? = some (.cells #[.slice xa xn xc, .int .i64 xm] 43)) := World.alloc_heap_new _ _
        have HLt : Hid (∀ z0, O z0 → z0 < wr.heap.size) := fun z0 hz0 => HI.out.fs.lt z0 hz0
        clear HI HBa
        refine (HGr.out _ (HOk.out.below HIb.out.be)).mono ?_
        rintro e w3 ⟨gb, rfl, hb3⟩
        have HI3 : Hid (RwI W 1048576 (.pointer (some ⟨g0, 0, none⟩)) g nm 0 (.slice oa k oc) fb C O w3) := HIb.out.below hb3
        have HX3 : Hid (w3.heap[wr.heap.size]? = some (.cells #[.slice xa xn xc, .int .i64 xm] 43)) := (hb3.block _ (by simp)).trans HXb.out
        clear hb3 HIb HXb HGr
        cases gb with
        | true =>
          go_wp2_with fail
          refine (alive12_any _).mono ?_
          rintro e w4 ⟨rfl, hb4⟩
          go_wp2_with fail
          go_ret
          exact ⟨rfl, (HI3.out.below hb4).be⟩
        | false =>
          have x0 := cellW HX3.out 0 (by simp)
          have x1 := cellW HX3.out 1 (by simp)
          simp only [List.getElem_toArray, List.getElem_cons_succ, List.getElem_cons_zero] at x0 x1
          have HAd6 : Hid (Calls Tryz.prog 20 #[.pointer (some ⟨g, 0, none⟩), .agg #[.slice xa xn xc, .int .i64 xm]] w3 (AdPost w3 O (.pointer (some ⟨g0, 0, none⟩)) (lgAdd (SgS 1048576 nm fb 0) nm x))) := HAd.out 0 _ (HOk.out.below HI3.out.be) HI3.out
          clear HAd
          by_cases hrt : rightR x.p x.m = true
          · have HA1 : Hid (lgAdd (SgS 1048576 nm fb 0) nm x = (0, SgS 1048576 nm (fb ++ frm (wrR x.p x.m)) 0)) := by
              have h1 := wrR_len hrt
              have h2 := frm_len (wrR x.p x.m)
              unfold Hid
              rw [lg_yes hrt, sg_append _ _ _ _ _ (by omega), if_neg (by omega)]
            rw [HA1.out] at HAd6
            have HRk : Hid (rgt (C ++ [x])) := rgt_snoc HRg.out hrt
            clear hrt HA1
            go_wp2_with fail
            refine HAd6.out.mono ?_
            rintro e w7 ⟨O7, rfl, hf7, hg7, ho7⟩
            have HI7 : Hid (RwI W 1048576 (.pointer (some ⟨g0, 0, none⟩)) g nm 0 (.slice oa k oc) (fb ++ frm (wrR x.p x.m)) C O7 w7) := HI3.out.onl hf7 hg7 ho7
            have HX7 : Hid (w7.heap[wr.heap.size]? = some (.cells #[.slice xa xn xc, .int .i64 xm] 43)) := (ho7.block _ (Array.getElem?_eq_some_iff.1 HX3.out).1 (fun z => by have := HLt.out _ z; omega)).trans HX3.out
            clear hf7 hg7 ho7 x0 x1 HAd6
            have x0 := cellW HX7.out 0 (by simp)
            have x1 := cellW HX7.out 1 (by simp)
            simp only [List.getElem_toArray, List.getElem_cons_succ, List.getElem_cons_zero] at x0 x1
            obtain ⟨v8, w8, hrun, hi8⟩ := HI7.out.app 27 x HXs.out (by omega)
            rw [HXv.out] at hrun
            rw [← HFs.out, ← HMk.out] at hi8
            have HI8 : Hid (RwI W 1048576 (.pointer (some ⟨g0, 0, none⟩)) g nm 0 v8 (cat (wrs (M.take (k + 1)))) (M.take (k + 1)) O7 w8) := hi8
            rw [← HMk.out] at HRk
            rw [← HXm.out] at hrun
            clear hi8
            go_wp2_with (at_builtin; refine wpList_app_runG rfl _ _ 27 27 rfl rfl _ _ _ rfl rfl hrun ?_)
            go_roundw
            case rel => exact ⟨k + 1, O7, by go_num, by omega, HRk, by rw [show SY (k + 1) = 0 from hSY0 (k + 1) (by omega)]; exact HI8⟩
            case measure => simp [intOf]; omega
          · have HA1 : Hid (lgAdd (SgS 1048576 nm fb 0) nm x = (90, SgS 1048576 nm fb 0)) := lg_no (by simpa using hrt)
            rw [HA1.out] at HAd6
            clear hrt HA1
            go_wp2_with fail
            refine HAd6.out.mono ?_
            rintro e w7 ⟨O7, rfl, hf7, hg7, ho7⟩
            have HI7 : Hid (RwI W 1048576 (.pointer (some ⟨g0, 0, none⟩)) g nm 0 (.slice oa k oc) fb C O7 w7) := HI3.out.onl hf7 hg7 ho7
            clear hf7 hg7 ho7 x0 x1 HAd6
            go_wp2_with fail
            refine (alive12_any _).mono ?_
            rintro e w4 ⟨rfl, hb4⟩
            go_wp2_with fail
            go_ret
            exact ⟨rfl, (HI7.out.below hb4).be⟩
      · subst hka
        have i1 : ¬ (A.length : Int) < (A.length : Int) := by omega
        have hB0 : 0 < B.length := by omega
        rw [hSY0 A.length (by omega)] at HI
        have hfa : fb.length = FA := by rw [HFA.out, HFb.out, HC.out, HM.out, List.take_left]
        have HSy : Hid (Calls Tryz.prog 25 #[.pointer (some ⟨g, 0, none⟩)] wr (FsR wr O (.pointer (some ⟨g0, 0, none⟩)) (sfSync (SgS 1048576 nm fb 0) nm))) := logSync_any HI.out.fs HI.out.lg HI.out.go HNl.out
        rw [sg_sync, hfa] at HSy
        clear hfa
        go_wp2_with fail
        refine HSy.out.mono ?_
        rintro e wq ⟨rfl, hfq, hoq⟩
        have HIq : Hid (RwI W 1048576 (.pointer (some ⟨g0, 0, none⟩)) g nm FA (.slice oa A.length oc) fb C (Grw O wr wq) wq) := HI.out.onl hfq (fun k hk => hk) hoq
        clear hfq hoq HSy HI
        generalize Grw O wr wq = O at HIq
        obtain ⟨x, Hx⟩ := hid_ex B[0]
        obtain ⟨b, off, rfl, hbw, c0, c1, hok⟩ := HB.out.two hB0 Hx.out
        obtain ⟨xa, xc, hxv, _⟩ := hok.f.form
        have HOk : Hid (RcOk W x) := hok
        have HXs : Hid (∃ a n c, x.v = .slice a n c) := hok.slice
        have HMk : Hid (M.take (A.length + 1) = C ++ [x]) := by
          unfold Hid
          rw [HC.out, List.take_add_one, List.getElem?_eq_getElem (by rw [hMl]; omega)]
          have : M[A.length]'(by rw [hMl]; omega) = x := by
            rw [Hx.out]
            have e : ∀ (N : List Rc) (h : N = A ++ B) (q : A.length < N.length), N[A.length] = B[0]'(hB0) := fun N h q => by
              subst h
              exact by rw [List.getElem_append_right (by omega)]; congr 1; omega
            exact e M HM.out _
          rw [this]; rfl
        have HFs : Hid (cat (wrs (M.take (A.length + 1))) = fb ++ frm (wrR x.p x.m)) := by unfold Hid; rw [HMk.out, wrs_snoc, ← HFb.out]
        have HGr : Hid (∀ w, RcOk w x → Calls Tryz.prog 16 #[x.val] w (GrPost w)) := fun w hw => great_any x w hw
        have HAd : Hid (∀ sy w, RcOk w x → RwI W 1048576 (.pointer (some ⟨g0, 0, none⟩)) g nm sy (.slice oa A.length oc) fb C O w → Calls Tryz.prog 20 #[.pointer (some ⟨g, 0, none⟩), x.val] w (AdPost w O (.pointer (some ⟨g0, 0, none⟩)) (lgAdd (SgS 1048576 nm fb sy) nm x))) := fun sy w hw hi => logAdd_any hi.fs hi.lg hi.go HNl.out x hw
        have HXv2 : Hid (x.val = .agg #[.slice xa x.fs.length xc, .int .i64 x.m]) := by unfold Hid Rc.val; rw [hxv]
        rw [HXv2.out] at HGr HAd
        rw [hxv] at c0
        have HXv : Hid (x.v = .slice xa x.fs.length xc) := hxv
        have HC0 : Hid (W.cell? ⟨b, off + 0 * 2, none⟩ = some (.slice xa x.fs.length xc)) := c0
        have HC1 : Hid (W.cell? ⟨b, off + 0 * 2 + 1, none⟩ = some (.int .i64 x.m)) := c1
        have HBw : Hid (b < W.heap.size) := hbw
        generalize x.fs.length = xn at *
        obtain ⟨xm, HXm⟩ := hid_ex x.m
        rw [← HXm.out] at HC1 HGr HAd
        clear hok hxv c0 c1 HXv2 Hx hbw
        have HIz := HIq.out.below ((Below.refl _ _).alloc (Nat.le_refl _) (.cells #[.slice none 0 0, .int .i64 0] 43))
        have c0 := (HIz.be.cell (p := ⟨b, off + 0 * 2, none⟩) HBw.out).trans HC0.out
        have c1 := (HIz.be.cell (p := ⟨b, off + 0 * 2 + 1, none⟩) HBw.out).trans HC1.out
        clear HIz
        simp only [Nat.zero_mul, Nat.add_zero] at c0 c1
        go_wp2_with fail
        have HBa : Hid (Below wq.heap.size wq (wq.alloc (.cells #[.slice xa xn xc, .int .i64 xm] 43))) := (Below.refl _ _).alloc (Nat.le_refl _) _
        have HIb : Hid (RwI W 1048576 (.pointer (some ⟨g0, 0, none⟩)) g nm FA (.slice oa A.length oc) fb C O (wq.alloc (.cells #[.slice xa xn xc, .int .i64 xm] 43))) := HIq.out.below HBa.out
        have HXb : Hid ((wq.alloc (.cells #[.slice xa xn xc, .int .i64 xm] 43)).heap[wq.heap.size]? = some (.cells #[.slice xa xn xc, .int .i64 xm] 43)) := World.alloc_heap_new _ _
        have HLt : Hid (∀ z0, O z0 → z0 < wq.heap.size) := fun z0 hz0 => HIq.out.fs.lt z0 hz0
        clear HIq HBa
        refine (HGr.out _ (HOk.out.below HIb.out.be)).mono ?_
        rintro e w3 ⟨gb, rfl, hb3⟩
        have HI3 : Hid (RwI W 1048576 (.pointer (some ⟨g0, 0, none⟩)) g nm FA (.slice oa A.length oc) fb C O w3) := HIb.out.below hb3
        have HX3 : Hid (w3.heap[wq.heap.size]? = some (.cells #[.slice xa xn xc, .int .i64 xm] 43)) := (hb3.block _ (by simp)).trans HXb.out
        clear hb3 HIb HXb HGr
        cases gb with
        | true =>
          go_wp2_with fail
          refine (alive12_any _).mono ?_
          rintro e w4 ⟨rfl, hb4⟩
          go_wp2_with fail
          go_ret
          exact ⟨rfl, (HI3.out.below hb4).be⟩
        | false =>
          have x0 := cellW HX3.out 0 (by simp)
          have x1 := cellW HX3.out 1 (by simp)
          simp only [List.getElem_toArray, List.getElem_cons_succ, List.getElem_cons_zero] at x0 x1
          have HAd6 : Hid (Calls Tryz.prog 20 #[.pointer (some ⟨g, 0, none⟩), .agg #[.slice xa xn xc, .int .i64 xm]] w3 (AdPost w3 O (.pointer (some ⟨g0, 0, none⟩)) (lgAdd (SgS 1048576 nm fb FA) nm x))) := HAd.out FA _ (HOk.out.below HI3.out.be) HI3.out
          clear HAd
          by_cases hrt : rightR x.p x.m = true
          · have HA1 : Hid (lgAdd (SgS 1048576 nm fb FA) nm x = (0, SgS 1048576 nm (fb ++ frm (wrR x.p x.m)) FA)) := by
              have h1 := wrR_len hrt
              have h2 := frm_len (wrR x.p x.m)
              unfold Hid
              rw [lg_yes hrt, sg_append _ _ _ _ _ (by omega), if_neg (by omega)]
            rw [HA1.out] at HAd6
            have HRk : Hid (rgt (C ++ [x])) := rgt_snoc HRg.out hrt
            clear hrt HA1
            go_wp2_with fail
            refine HAd6.out.mono ?_
            rintro e w7 ⟨O7, rfl, hf7, hg7, ho7⟩
            have HI7 : Hid (RwI W 1048576 (.pointer (some ⟨g0, 0, none⟩)) g nm FA (.slice oa A.length oc) (fb ++ frm (wrR x.p x.m)) C O7 w7) := HI3.out.onl hf7 hg7 ho7
            have HX7 : Hid (w7.heap[wq.heap.size]? = some (.cells #[.slice xa xn xc, .int .i64 xm] 43)) := (ho7.block _ (Array.getElem?_eq_some_iff.1 HX3.out).1 (fun z => by have := HLt.out _ z; omega)).trans HX3.out
            clear hf7 hg7 ho7 x0 x1 HAd6
            have x0 := cellW HX7.out 0 (by simp)
            have x1 := cellW HX7.out 1 (by simp)
            simp only [List.getElem_toArray, List.getElem_cons_succ, List.getElem_cons_zero] at x0 x1
            obtain ⟨v8, w8, hrun, hi8⟩ := HI7.out.app 27 x HXs.out (by omega)
            rw [HXv.out] at hrun
            rw [← HFs.out, ← HMk.out] at hi8
            have HI8 : Hid (RwI W 1048576 (.pointer (some ⟨g0, 0, none⟩)) g nm FA v8 (cat (wrs (M.take (A.length + 1)))) (M.take (A.length + 1)) O7 w8) := hi8
            rw [← HMk.out] at HRk
            rw [← HXm.out] at hrun
            clear hi8
            go_wp2_with (at_builtin; refine wpList_app_runG rfl _ _ 27 27 rfl rfl _ _ _ rfl rfl hrun ?_)
            go_roundw
            case rel => exact ⟨A.length + 1, O7, by go_num, by omega, HRk, by rw [show SY (A.length + 1) = FA from hSY1 (A.length + 1) (by omega)]; exact HI8⟩
            case measure => simp [intOf]; omega
          · have HA1 : Hid (lgAdd (SgS 1048576 nm fb FA) nm x = (90, SgS 1048576 nm fb FA)) := lg_no (by simpa using hrt)
            rw [HA1.out] at HAd6
            clear hrt HA1
            go_wp2_with fail
            refine HAd6.out.mono ?_
            rintro e w7 ⟨O7, rfl, hf7, hg7, ho7⟩
            have HI7 : Hid (RwI W 1048576 (.pointer (some ⟨g0, 0, none⟩)) g nm FA (.slice oa A.length oc) fb C O7 w7) := HI3.out.onl hf7 hg7 ho7
            clear hf7 hg7 ho7 x0 x1 HAd6
            go_wp2_with fail
            refine (alive12_any _).mono ?_
            rintro e w4 ⟨rfl, hb4⟩
            go_wp2_with fail
            go_ret
            exact ⟨rfl, (HI7.out.below hb4).be⟩
      · have i1 : ¬ (k : Int) < (A.length : Int) := by omega
        have i2 : ¬ (k : Int) = (A.length : Int) := by omega
        have hB1 : k - A.length < B.length := by omega
        have i3 : (k : Int) - (A.length : Int) = ((k - A.length : Nat) : Int) := by omega
        rw [hSY1 k hka] at HI
        obtain ⟨x, Hx⟩ := hid_ex B[(k - A.length)]
        obtain ⟨b, off, rfl, hbw, c0, c1, hok⟩ := HB.out.two hB1 Hx.out
        obtain ⟨xa, xc, hxv, _⟩ := hok.f.form
        have HOk : Hid (RcOk W x) := hok
        have HXs : Hid (∃ a n c, x.v = .slice a n c) := hok.slice
        have HMk : Hid (M.take (k + 1) = C ++ [x]) := by
          unfold Hid
          rw [HC.out, List.take_add_one, List.getElem?_eq_getElem (by rw [hMl]; omega)]
          have : M[k]'(by rw [hMl]; omega) = x := by
            rw [Hx.out]
            have e : ∀ (N : List Rc) (h : N = A ++ B) (q : k < N.length), N[k] = B[(k - A.length)]'(hB1) := fun N h q => by
              subst h
              exact by rw [List.getElem_append_right (by omega)]
            exact e M HM.out _
          rw [this]; rfl
        have HFs : Hid (cat (wrs (M.take (k + 1))) = fb ++ frm (wrR x.p x.m)) := by unfold Hid; rw [HMk.out, wrs_snoc, ← HFb.out]
        have HGr : Hid (∀ w, RcOk w x → Calls Tryz.prog 16 #[x.val] w (GrPost w)) := fun w hw => great_any x w hw
        have HAd : Hid (∀ sy w, RcOk w x → RwI W 1048576 (.pointer (some ⟨g0, 0, none⟩)) g nm sy (.slice oa k oc) fb C O w → Calls Tryz.prog 20 #[.pointer (some ⟨g, 0, none⟩), x.val] w (AdPost w O (.pointer (some ⟨g0, 0, none⟩)) (lgAdd (SgS 1048576 nm fb sy) nm x))) := fun sy w hw hi => logAdd_any hi.fs hi.lg hi.go HNl.out x hw
        have HXv2 : Hid (x.val = .agg #[.slice xa x.fs.length xc, .int .i64 x.m]) := by unfold Hid Rc.val; rw [hxv]
        rw [HXv2.out] at HGr HAd
        rw [hxv] at c0
        have HXv : Hid (x.v = .slice xa x.fs.length xc) := hxv
        have HC0 : Hid (W.cell? ⟨b, off + (k - A.length) * 2, none⟩ = some (.slice xa x.fs.length xc)) := c0
        have HC1 : Hid (W.cell? ⟨b, off + (k - A.length) * 2 + 1, none⟩ = some (.int .i64 x.m)) := c1
        have HBw : Hid (b < W.heap.size) := hbw
        generalize x.fs.length = xn at *
        obtain ⟨xm, HXm⟩ := hid_ex x.m
        rw [← HXm.out] at HC1 HGr HAd
        clear hok hxv c0 c1 HXv2 Hx hbw
        have HIz := HI.out.below ((Below.refl _ _).alloc (Nat.le_refl _) (.cells #[.slice none 0 0, .int .i64 0] 43))
        have c0 := (HIz.be.cell (p := ⟨b, off + (k - A.length) * 2, none⟩) HBw.out).trans HC0.out
        have c1 := (HIz.be.cell (p := ⟨b, off + (k - A.length) * 2 + 1, none⟩) HBw.out).trans HC1.out
        clear HIz
        go_wp2_with fail
        have HBa : Hid (Below wr.heap.size wr (wr.alloc (.cells #[.slice xa xn xc, .int .i64 xm] 43))) := (Below.refl _ _).alloc (Nat.le_refl _) _
        have HIb : Hid (RwI W 1048576 (.pointer (some ⟨g0, 0, none⟩)) g nm FA (.slice oa k oc) fb C O (wr.alloc (.cells #[.slice xa xn xc, .int .i64 xm] 43))) := HI.out.below HBa.out
        have HXb : Hid ((wr.alloc (.cells #[.slice xa xn xc, .int .i64 xm] 43)).heap[wr.heap.size]? = some (.cells #[.slice xa xn xc, .int .i64 xm] 43)) := World.alloc_heap_new _ _
        have HLt : Hid (∀ z0, O z0 → z0 < wr.heap.size) := fun z0 hz0 => HI.out.fs.lt z0 hz0
        clear HI HBa
        refine (HGr.out _ (HOk.out.below HIb.out.be)).mono ?_
        rintro e w3 ⟨gb, rfl, hb3⟩
        have HI3 : Hid (RwI W 1048576 (.pointer (some ⟨g0, 0, none⟩)) g nm FA (.slice oa k oc) fb C O w3) := HIb.out.below hb3
        have HX3 : Hid (w3.heap[wr.heap.size]? = some (.cells #[.slice xa xn xc, .int .i64 xm] 43)) := (hb3.block _ (by simp)).trans HXb.out
        clear hb3 HIb HXb HGr
        cases gb with
        | true =>
          go_wp2_with fail
          refine (alive12_any _).mono ?_
          rintro e w4 ⟨rfl, hb4⟩
          go_wp2_with fail
          go_ret
          exact ⟨rfl, (HI3.out.below hb4).be⟩
        | false =>
          have x0 := cellW HX3.out 0 (by simp)
          have x1 := cellW HX3.out 1 (by simp)
          simp only [List.getElem_toArray, List.getElem_cons_succ, List.getElem_cons_zero] at x0 x1
          have HAd6 : Hid (Calls Tryz.prog 20 #[.pointer (some ⟨g, 0, none⟩), .agg #[.slice xa xn xc, .int .i64 xm]] w3 (AdPost w3 O (.pointer (some ⟨g0, 0, none⟩)) (lgAdd (SgS 1048576 nm fb FA) nm x))) := HAd.out FA _ (HOk.out.below HI3.out.be) HI3.out
          clear HAd
          by_cases hrt : rightR x.p x.m = true
          · have HA1 : Hid (lgAdd (SgS 1048576 nm fb FA) nm x = (0, SgS 1048576 nm (fb ++ frm (wrR x.p x.m)) FA)) := by
              have h1 := wrR_len hrt
              have h2 := frm_len (wrR x.p x.m)
              unfold Hid
              rw [lg_yes hrt, sg_append _ _ _ _ _ (by omega), if_neg (by omega)]
            rw [HA1.out] at HAd6
            have HRk : Hid (rgt (C ++ [x])) := rgt_snoc HRg.out hrt
            clear hrt HA1
            go_wp2_with fail
            refine HAd6.out.mono ?_
            rintro e w7 ⟨O7, rfl, hf7, hg7, ho7⟩
            have HI7 : Hid (RwI W 1048576 (.pointer (some ⟨g0, 0, none⟩)) g nm FA (.slice oa k oc) (fb ++ frm (wrR x.p x.m)) C O7 w7) := HI3.out.onl hf7 hg7 ho7
            have HX7 : Hid (w7.heap[wr.heap.size]? = some (.cells #[.slice xa xn xc, .int .i64 xm] 43)) := (ho7.block _ (Array.getElem?_eq_some_iff.1 HX3.out).1 (fun z => by have := HLt.out _ z; omega)).trans HX3.out
            clear hf7 hg7 ho7 x0 x1 HAd6
            have x0 := cellW HX7.out 0 (by simp)
            have x1 := cellW HX7.out 1 (by simp)
            simp only [List.getElem_toArray, List.getElem_cons_succ, List.getElem_cons_zero] at x0 x1
            obtain ⟨v8, w8, hrun, hi8⟩ := HI7.out.app 27 x HXs.out (by omega)
            rw [HXv.out] at hrun
            rw [← HFs.out, ← HMk.out] at hi8
            have HI8 : Hid (RwI W 1048576 (.pointer (some ⟨g0, 0, none⟩)) g nm FA v8 (cat (wrs (M.take (k + 1)))) (M.take (k + 1)) O7 w8) := hi8
            rw [← HMk.out] at HRk
            rw [← HXm.out] at hrun
            clear hi8
            go_wp2_with (at_builtin; refine wpList_app_runG rfl _ _ 27 27 rfl rfl _ _ _ rfl rfl hrun ?_)
            go_roundw
            case rel => exact ⟨k + 1, O7, by go_num, by omega, HRk, by rw [show SY (k + 1) = FA from hSY1 (k + 1) (by omega)]; exact HI8⟩
            case measure => simp [intOf]; omega
          · have HA1 : Hid (lgAdd (SgS 1048576 nm fb FA) nm x = (90, SgS 1048576 nm fb FA)) := lg_no (by simpa using hrt)
            rw [HA1.out] at HAd6
            clear hrt HA1
            go_wp2_with fail
            refine HAd6.out.mono ?_
            rintro e w7 ⟨O7, rfl, hf7, hg7, ho7⟩
            have HI7 : Hid (RwI W 1048576 (.pointer (some ⟨g0, 0, none⟩)) g nm FA (.slice oa k oc) fb C O7 w7) := HI3.out.onl hf7 hg7 ho7
            clear hf7 hg7 ho7 x0 x1 HAd6
            go_wp2_with fail
            refine (alive12_any _).mono ?_
            rintro e w4 ⟨rfl, hb4⟩
            go_wp2_with fail
            go_ret
            exact ⟨rfl, (HI7.out.below hb4).be⟩
    · have hlt' : ¬ (k : Int) < (A.length : Int) + (B.length : Int) := by omega
      have hCM : C = M := by rw [HC.out, List.take_of_length_le (by omega)]
      rw [hCM] at HI HRg HFb
      have hfl : fb.length ≤ 2708 * 24 := by omega
      have hoM : M.length ≤ oc := by omega
      have hkM : k = M.length := by omega
      rw [hkM] at HI ⊢
      by_cases hB0 : (B.length : Int) = 0
      · have hfa : fb.length = FA := by
          have : B = [] := List.length_eq_zero_iff.1 (by omega)
          rw [HFA.out, HFb.out, HM.out, this, List.append_nil]
        rw [hSY0 M.length (by omega)] at HI
        have HSy : Hid (Calls Tryz.prog 25 #[.pointer (some ⟨g, 0, none⟩)] wr (FsR wr O (.pointer (some ⟨g0, 0, none⟩)) (sfSync (SgS 1048576 nm fb 0) nm))) := logSync_any HI.out.fs HI.out.lg HI.out.go HNl.out
        rw [sg_sync, hfa] at HSy
        clear hfa
        go_wp2_with fail
        refine HSy.out.mono ?_
        rintro e wq ⟨rfl, hfq, hoq⟩
        have HIq : Hid (RwI W 1048576 (.pointer (some ⟨g0, 0, none⟩)) g nm FA (.slice oa M.length oc) fb M (Grw O wr wq) wq) := HI.out.onl hfq (fun k hk => hk) hoq
        clear hfq hoq HSy HI
        generalize Grw O wr wq = O5 at HIq
        go_wp2_with fail
        have HKr : Hid (∀ w', Onl O5 wq w' → KReads w' (.slice ka ks.length kc) ks) := fun w' ho => kreads_below HK.out (HIq.out.be.trans (ho.below HIq.out.be.size HIq.out.lo))
        have HCr : Hid (Calls Tryz.prog 29 #[.pointer (some ⟨g0, 0, none⟩), .int .i64 ops, .slice ka ks.length kc] wq (FsR wq O5 (.pointer (some ⟨g0, 0, none⟩)) (0, sfCrash (SgS 1048576 nm fb FA) ops ks))) := HIq.out.fs.crash ops _ ks HKr.out
        rw [sg_crash] at HCr
        obtain ⟨cc, HCC⟩ := hid_ex (sgC fb FA ks)
        rw [← HCC.out] at HCr
        have hcf : FA ≤ cc := by rw [HCC.out]; unfold sgC; omega
        obtain ⟨j, hj1, hj2, HJ1, HJ2⟩ : ∃ j, A.length ≤ j ∧ j ≤ M.length ∧ Hid (fmS (fb.take cc) = (wrs M).take j) ∧ Hid (rcF (fmS (fb.take cc)) = (M.take j).map Rc.q) := by
          have := whole_cut A B (by rw [← HM.out]; exact HRg.out) (by rw [← HM.out]; exact HPb.out) cc (by rw [← HFA.out]; exact hcf)
          rw [← HM.out, ← HFb.out] at this
          exact this
        refine HCr.out.mono ?_
        rintro e w8 ⟨rfl, hf8, ho8⟩
        have HI8 : Hid (RwI W 1048576 (.pointer (some ⟨g0, 0, none⟩)) g nm cc (.slice oa M.length oc) (fb.take cc) M (Grw O5 wq w8) w8) := HIq.out.onl hf8 (fun k hk => hk) ho8
        have hfl : (fb.take cc).length ≤ 1000000 := by rw [List.length_take]; omega
        have HFm : Hid (∀ d ∈ fmS (fb.take cc), d.length ≤ 5000) := fun d hd => by
          rw [HJ1.out] at hd
          have := wrs_len HRg.out d (List.mem_of_mem_take hd)
          omega
        have HRp : Hid (Calls Tryz.prog 14 #[.pointer (some ⟨g0, 0, none⟩), .int .i64 1] w8 (RpPost w8 (fb.take cc))) := replay_any HI8.out.fs 1 (by decide) (.inl (by decide)) (by rw [← HNm.out]; exact sg_fe _ _ _ _) (by rw [← HNm.out]; exact sg_read _ _ _ _) hfl HFm.out
        clear hf8 ho8 HCr HKr HIq HJ1 HFm
        go_wp2_with fail
        refine HRp.out.mono ?_
        rintro e w9 ⟨rv, R, rfl, hrs, -, hrq, hb9⟩
        have HI9 : Hid (RwI W 1048576 (.pointer (some ⟨g0, 0, none⟩)) g nm cc (.slice oa M.length oc) (fb.take cc) M (Grw O5 wq w8) w9) := HI8.out.below hb9
        rw [HJ2.out] at hrq
        have hRl : R.length = j := by
          have h1 := congrArg List.length hrq
          rw [List.length_map, List.length_map, List.length_take] at h1
          omega
        obtain ⟨ra, rcp, hrv, _⟩ := hrs.form
        subst hrv
        have HR9 : Hid (RsR w9 (.slice ra R.length rcp) R) := hrs
        have HM9 : Hid (RsR w9 (.slice oa M.length oc) M) := rsr_of HI9.out.ow fun x hx => (HMo.out x hx).below HI9.out.be
        have HT9 : Hid (RsR w9 (.slice oa R.length oc) (M.take R.length)) := HM9.out.take (by omega)
        have HRq : Hid (R.map Rc.q = (M.take R.length).map Rc.q) := by unfold Hid; rw [hRl]; exact hrq
        have HBe9 : Hid (Below W.heap.size W w9) := HI9.out.be
        have hsl := fun w => rsl_upto oa M.length oc R.length (by omega) w
        have k1 : (A.length : Int) ≤ (R.length : Int) := by omega
        have k2 : (R.length : Int) ≤ (M.length : Int) := by omega
        have HTl : Hid ((M.take R.length).length ≤ 100000) := by unfold Hid; rw [List.length_take]; omega
        have hRb : R.length ≤ 100000 := by omega
        clear hrs hrq hb9 HRp HI8 HI9 HJ2 HM9 hRl
        go_wp2_with fail
        refine wp_region_noPanic ?_
        refine wp_region_held_drew (S := (fun w' => Below w9.heap.size w9 w')) (by kernel_rfl) ?_ (fun hHeld => ?_)
        · exact (Below.refl _ _).drew
        refine wpAnyH_ready (rs := [0]) (by kernel_rfl) (by simp) ?_
        refine AllReadyH.cons (o := _) rfl (fun K hK => ?_) AllReadyH.nil
        go_simp
        refine (alive12_any _).mono ?_
        rintro e w10 ⟨rfl, hb10⟩
        have HB10 : Hid (Below w9.heap.size w9 w10) := (Below.refl w9.heap.size w9).drew.trans hb10
        clear hb10
        refine hK.out _ _ ?_ (fun hHeld => ?_)
        · exact HB10.out
        clear hK K
        refine wpAnyH_take (i := 1) (v := .bool true) rfl (by kernel_rfl) (by kernel_rfl) (by kernel_rfl) (fun _ _ _ h => h) (Or.inl ⟨by rfl, ?_⟩) (by assumption) ?_
        · (intro w1 hSw; (try dsimp only at hSw); go_simp)
        simp only [List.getElem_toArray, List.getElem_cons_succ, List.getElem_cons_zero, Act.put, List.setIfInBounds_toArray, List.set_cons_zero, List.set_cons_succ]
        refine wpAnyH_take (i := 2) (v := .int .i64 0) rfl (by kernel_rfl) (by kernel_rfl) (by kernel_rfl) (fun _ _ _ h => h) (Or.inl ⟨by rfl, ?_⟩) (by assumption) ?_
        · (intro w1 hSw; (try dsimp only at hSw); go_simp)
        simp only [List.getElem_toArray, List.getElem_cons_succ, List.getElem_cons_zero, Act.put, List.setIfInBounds_toArray, List.set_cons_zero, List.set_cons_succ]
        refine wpAnyH_take (i := 3) (v := .bool true) rfl (by kernel_rfl) (by kernel_rfl) (by kernel_rfl) (fun _ _ _ h => h) (Or.inl ⟨by rfl, ?_⟩) (by assumption) ?_
        · (intro w1 hSw; (try dsimp only at hSw); go_simp)
        simp only [List.getElem_toArray, List.getElem_cons_succ, List.getElem_cons_zero, Act.put, List.setIfInBounds_toArray, List.set_cons_zero, List.set_cons_succ]
        refine wpAnyH_take (i := 4) (v := .bool true) rfl (by kernel_rfl) (by kernel_rfl) (by kernel_rfl) (fun _ _ _ h => h) (Or.inl ⟨by rfl, ?_⟩) (by assumption) ?_
        · (intro w1 hSw; (try dsimp only at hSw); go_simp)
        simp only [List.getElem_toArray, List.getElem_cons_succ, List.getElem_cons_zero, Act.put, List.setIfInBounds_toArray, List.set_cons_zero, List.set_cons_succ]
        refine wpAnyH_take (i := 5) (v := .bool true) rfl (by kernel_rfl) (by kernel_rfl) (by kernel_rfl) (fun _ _ _ h => h) (Or.inl ⟨by rfl, ?_⟩) (by assumption) ?_
        · (intro w1 hSw; (try dsimp only at hSw); go_simp)
        simp only [List.getElem_toArray, List.getElem_cons_succ, List.getElem_cons_zero, Act.put, List.setIfInBounds_toArray, List.set_cons_zero, List.set_cons_succ]
        refine wpAnyH_take (i := 6) (v := .slice ra R.length rcp) rfl (by kernel_rfl) (by kernel_rfl) (by kernel_rfl) (fun _ _ _ h => h) (Or.inl ⟨by rfl, ?_⟩) (by assumption) ?_
        · (intro w1 hSw; (try dsimp only at hSw); go_simp)
        simp only [List.getElem_toArray, List.getElem_cons_succ, List.getElem_cons_zero, Act.put, List.setIfInBounds_toArray, List.set_cons_zero, List.set_cons_succ]
        refine wpAnyH_take (i := 7) (v := .int .i64 (R.length : Int)) rfl (by kernel_rfl) (by kernel_rfl) (by kernel_rfl) (fun _ _ _ h => h) (Or.inl ⟨by rfl, ?_⟩) (by assumption) ?_
        · (intro w1 hSw; (try dsimp only at hSw); go_simp)
        simp only [List.getElem_toArray, List.getElem_cons_succ, List.getElem_cons_zero, Act.put, List.setIfInBounds_toArray, List.set_cons_zero, List.set_cons_succ]
        refine wpAnyH_take (i := 8) (v := .slice v0 A.length v0c) rfl (by kernel_rfl) (by kernel_rfl) (by kernel_rfl) (fun _ _ _ h => h) (Or.inl ⟨by rfl, ?_⟩) (by assumption) ?_
        · (intro w1 hSw; (try dsimp only at hSw); go_simp)
        simp only [List.getElem_toArray, List.getElem_cons_succ, List.getElem_cons_zero, Act.put, List.setIfInBounds_toArray, List.set_cons_zero, List.set_cons_succ]
        refine wpAnyH_take (i := 9) (v := .int .i64 (A.length : Int)) rfl (by kernel_rfl) (by kernel_rfl) (by kernel_rfl) (fun _ _ _ h => h) (Or.inl ⟨by rfl, ?_⟩) (by assumption) ?_
        · (intro w1 hSw; (try dsimp only at hSw); go_simp)
        simp only [List.getElem_toArray, List.getElem_cons_succ, List.getElem_cons_zero, Act.put, List.setIfInBounds_toArray, List.set_cons_zero, List.set_cons_succ]
        refine wpAnyH_take (i := 10) (v := .bool true) rfl (by kernel_rfl) (by kernel_rfl) (by kernel_rfl) (fun _ _ _ h => h) (Or.inl ⟨by rfl, ?_⟩) (by assumption) ?_
        · (intro w1 hSw; (try dsimp only at hSw); go_simp; all_goals omega)
        simp only [List.getElem_toArray, List.getElem_cons_succ, List.getElem_cons_zero, Act.put, List.setIfInBounds_toArray, List.set_cons_zero, List.set_cons_succ]
        refine wpAnyH_take (i := 11) (v := .bool true) rfl (by kernel_rfl) (by kernel_rfl) (by kernel_rfl) (fun _ _ _ h => h) (Or.inl ⟨by rfl, ?_⟩) (by assumption) ?_
        · (intro w1 hSw; (try dsimp only at hSw); go_simp)
        simp only [List.getElem_toArray, List.getElem_cons_succ, List.getElem_cons_zero, Act.put, List.setIfInBounds_toArray, List.set_cons_zero, List.set_cons_succ]
        refine wpAnyH_take (i := 12) (v := .bool true) rfl (by kernel_rfl) (by kernel_rfl) (by kernel_rfl) (fun _ _ _ h => h) (Or.inl ⟨by rfl, ?_⟩) (by assumption) ?_
        · (intro w1 hSw; (try dsimp only at hSw); go_simp)
        simp only [List.getElem_toArray, List.getElem_cons_succ, List.getElem_cons_zero, Act.put, List.setIfInBounds_toArray, List.set_cons_zero, List.set_cons_succ]
        refine wpAnyH_take (i := 13) (v := .slice ra R.length rcp) rfl (by kernel_rfl) (by kernel_rfl) (by kernel_rfl) (fun _ _ _ h => h) (Or.inl ⟨by rfl, ?_⟩) (by assumption) ?_
        · (intro w1 hSw; (try dsimp only at hSw); go_simp)
        simp only [List.getElem_toArray, List.getElem_cons_succ, List.getElem_cons_zero, Act.put, List.setIfInBounds_toArray, List.set_cons_zero, List.set_cons_succ]
        refine wpAnyH_take (i := 14) (v := .int .i64 (R.length : Int)) rfl (by kernel_rfl) (by kernel_rfl) (by kernel_rfl) (fun _ _ _ h => h) (Or.inl ⟨by rfl, ?_⟩) (by assumption) ?_
        · (intro w1 hSw; (try dsimp only at hSw); go_simp)
        simp only [List.getElem_toArray, List.getElem_cons_succ, List.getElem_cons_zero, Act.put, List.setIfInBounds_toArray, List.set_cons_zero, List.set_cons_succ]
        refine wpAnyH_take (i := 15) (v := .slice oa M.length oc) rfl (by kernel_rfl) (by kernel_rfl) (by kernel_rfl) (fun _ _ _ h => h) (Or.inl ⟨by rfl, ?_⟩) (by assumption) ?_
        · (intro w1 hSw; (try dsimp only at hSw); go_simp)
        simp only [List.getElem_toArray, List.getElem_cons_succ, List.getElem_cons_zero, Act.put, List.setIfInBounds_toArray, List.set_cons_zero, List.set_cons_succ]
        refine wpAnyH_take (i := 16) (v := .int .i64 (M.length : Int)) rfl (by kernel_rfl) (by kernel_rfl) (by kernel_rfl) (fun _ _ _ h => h) (Or.inl ⟨by rfl, ?_⟩) (by assumption) ?_
        · (intro w1 hSw; (try dsimp only at hSw); go_simp)
        simp only [List.getElem_toArray, List.getElem_cons_succ, List.getElem_cons_zero, Act.put, List.setIfInBounds_toArray, List.set_cons_zero, List.set_cons_succ]
        refine wpAnyH_take (i := 17) (v := .bool true) rfl (by kernel_rfl) (by kernel_rfl) (by kernel_rfl) (fun _ _ _ h => h) (Or.inl ⟨by rfl, ?_⟩) (by assumption) ?_
        · (intro w1 hSw; (try dsimp only at hSw); go_simp; all_goals omega)
        simp only [List.getElem_toArray, List.getElem_cons_succ, List.getElem_cons_zero, Act.put, List.setIfInBounds_toArray, List.set_cons_zero, List.set_cons_succ]
        refine wpAnyH_take (i := 18) (v := .bool true) rfl (by kernel_rfl) (by kernel_rfl) (by kernel_rfl) (fun _ _ _ h => h) (Or.inl ⟨by rfl, ?_⟩) (by assumption) ?_
        · (intro w1 hSw; (try dsimp only at hSw); go_simp)
        simp only [List.getElem_toArray, List.getElem_cons_succ, List.getElem_cons_zero, Act.put, List.setIfInBounds_toArray, List.set_cons_zero, List.set_cons_succ]
        refine wpAnyH_take (i := 19) (v := .bool true) rfl (by kernel_rfl) (by kernel_rfl) (by kernel_rfl) (fun _ _ _ h => h) (Or.inl ⟨by rfl, ?_⟩) (by assumption) ?_
        · (intro w1 hSw; (try dsimp only at hSw); go_simp)
        simp only [List.getElem_toArray, List.getElem_cons_succ, List.getElem_cons_zero, Act.put, List.setIfInBounds_toArray, List.set_cons_zero, List.set_cons_succ]
        refine wpAnyH_take (i := 20) (v := .slice ra R.length rcp) rfl (by kernel_rfl) (by kernel_rfl) (by kernel_rfl) (fun _ _ _ h => h) (Or.inl ⟨by rfl, ?_⟩) (by assumption) ?_
        · (intro w1 hSw; (try dsimp only at hSw); go_simp)
        simp only [List.getElem_toArray, List.getElem_cons_succ, List.getElem_cons_zero, Act.put, List.setIfInBounds_toArray, List.set_cons_zero, List.set_cons_succ]
        refine wpAnyH_take (i := 22) (v := .slice oa M.length oc) rfl (by kernel_rfl) (by kernel_rfl) (by kernel_rfl) (fun _ _ _ h => h) (Or.inl ⟨by rfl, ?_⟩) (by assumption) ?_
        · (intro w1 hSw; (try dsimp only at hSw); go_simp)
        simp only [List.getElem_toArray, List.getElem_cons_succ, List.getElem_cons_zero, Act.put, List.setIfInBounds_toArray, List.set_cons_zero, List.set_cons_succ]
        refine wpAnyH_take (i := 23) (v := .slice ra R.length rcp) rfl (by kernel_rfl) (by kernel_rfl) (by kernel_rfl) (fun _ _ _ h => h) (Or.inl ⟨by rfl, ?_⟩) (by assumption) ?_
        · (intro w1 hSw; (try dsimp only at hSw); go_simp)
        simp only [List.getElem_toArray, List.getElem_cons_succ, List.getElem_cons_zero, Act.put, List.setIfInBounds_toArray, List.set_cons_zero, List.set_cons_succ]
        refine wpAnyH_take (i := 24) (v := .int .i64 (R.length : Int)) rfl (by kernel_rfl) (by kernel_rfl) (by kernel_rfl) (fun _ _ _ h => h) (Or.inl ⟨by rfl, ?_⟩) (by assumption) ?_
        · (intro w1 hSw; (try dsimp only at hSw); go_simp)
        simp only [List.getElem_toArray, List.getElem_cons_succ, List.getElem_cons_zero, Act.put, List.setIfInBounds_toArray, List.set_cons_zero, List.set_cons_succ]
        refine wpAnyH_take (i := 25) (v := .slice oa R.length oc) rfl (by kernel_rfl) (by kernel_rfl) (by kernel_rfl) (fun _ _ _ h => h) (Or.inl ⟨by rfl, ?_⟩) (by assumption) ?_
        · (intro w1 hSw; (try dsimp only at hSw); go_simp; all_goals (intro hh; omega))
        simp only [List.getElem_toArray, List.getElem_cons_succ, List.getElem_cons_zero, Act.put, List.setIfInBounds_toArray, List.set_cons_zero, List.set_cons_succ]
        refine wpAnyH_ready (rs := [21]) (by kernel_rfl) (by simp) ?_
        refine AllReadyH.cons (o := _) rfl (fun K hK => ?_) AllReadyH.nil
        go_simp
        refine (asAll_any _ R hRb _ (HR9.out.below HB10.out)).mono ?_
        rintro e w11 ⟨av, rfl, hra, hb11⟩
        have HB11 : Hid (Below w9.heap.size w9 w11) := HB10.out.trans (hb11.mono HB10.out.size)
        have HRA : Hid (RsR w11 av R) := hra
        clear hb11 hra
        refine hK.out _ _ ?_ (fun hHeld => ?_)
        · exact HB11.out
        clear hK K
        refine wpAnyH_ready (rs := [26]) (by kernel_rfl) (by simp) ?_
        refine AllReadyH.cons (o := _) rfl (fun K hK => ?_) AllReadyH.nil
        go_simp
        refine (asAll_any (.slice oa R.length oc) (M.take R.length) HTl.out _ (HT9.out.below HB11.out)).mono ?_
        rintro e w12 ⟨qv, rfl, hrb, hb12⟩
        have HB12 : Hid (Below w9.heap.size w9 w12) := HB11.out.trans (hb12.mono HB11.out.size)
        have HSm : Hid (Calls Tryz.prog 22 #[av, qv] w12 fun e w' => e = .returned (.bool true) ∧ Below w12.heap.size w12 w') := sameAll_true av qv R (M.take R.length) HRq.out w12 (HRA.out.below hb12) hrb
        clear hb12 hrb
        refine hK.out _ _ ?_ (fun hHeld => ?_)
        · exact HB12.out
        clear hK K
        refine wpAnyH_ready (rs := [27]) (by kernel_rfl) (by simp) ?_
        refine AllReadyH.cons (o := _) rfl (fun K hK => ?_) AllReadyH.nil
        go_simp
        refine HSm.out.mono ?_
        rintro e w13 ⟨rfl, hb13⟩
        have HB13 : Hid (Below w9.heap.size w9 w13) := HB12.out.trans (hb13.mono HB12.out.size)
        clear hb13
        refine hK.out _ _ ?_ (fun hHeld => ?_)
        · exact HB13.out
        clear hK K
        refine wpAnyH_take (i := 28) (v := .bool true) rfl (by kernel_rfl) (by kernel_rfl) (by kernel_rfl) (fun _ _ _ h => h) (Or.inl ⟨by rfl, ?_⟩) (by assumption) ?_
        · (intro w1 hSw; (try dsimp only at hSw); go_simp)
        simp only [List.getElem_toArray, List.getElem_cons_succ, List.getElem_cons_zero, Act.put, List.setIfInBounds_toArray, List.set_cons_zero, List.set_cons_succ]
        refine wpAnyH_take (i := 29) (v := .bool true) rfl (by kernel_rfl) (by kernel_rfl) (by kernel_rfl) (fun _ _ _ h => h) (Or.inl ⟨by rfl, ?_⟩) (by assumption) ?_
        · (intro w1 hSw; (try dsimp only at hSw); go_simp)
        simp only [List.getElem_toArray, List.getElem_cons_succ, List.getElem_cons_zero, Act.put, List.setIfInBounds_toArray, List.set_cons_zero, List.set_cons_succ]
        refine wpAnyH_done (by kernel_rfl) ?_ _
        refine NoPanic.normal ?_
        go_wp2_with fail
        go_ret
        exact ⟨rfl, HBe9.out.trans (HB13.out.mono HBe9.out.size)⟩
      · have hB2 : ¬ B.length = 0 := by omega
        have hB3 : ¬ B = [] := fun h => hB2 (by rw [h]; rfl)
        rw [hSY1 M.length (by omega)] at HI
        obtain ⟨O5, HO5⟩ := hid_ex O
        rw [← HO5.out] at HI
        go_wp2_with fail
        have HKr : Hid (∀ w', Onl O5 wr w' → KReads w' (.slice ka ks.length kc) ks) := fun w' ho => kreads_below HK.out (HI.out.be.trans (ho.below HI.out.be.size HI.out.lo))
        have HCr : Hid (Calls Tryz.prog 29 #[.pointer (some ⟨g0, 0, none⟩), .int .i64 ops, .slice ka ks.length kc] wr (FsR wr O5 (.pointer (some ⟨g0, 0, none⟩)) (0, sfCrash (SgS 1048576 nm fb FA) ops ks))) := HI.out.fs.crash ops _ ks HKr.out
        rw [sg_crash] at HCr
        obtain ⟨cc, HCC⟩ := hid_ex (sgC fb FA ks)
        rw [← HCC.out] at HCr
        have hcf : FA ≤ cc := by rw [HCC.out]; unfold sgC; omega
        obtain ⟨j, hj1, hj2, HJ1, HJ2⟩ : ∃ j, A.length ≤ j ∧ j ≤ M.length ∧ Hid (fmS (fb.take cc) = (wrs M).take j) ∧ Hid (rcF (fmS (fb.take cc)) = (M.take j).map Rc.q) := by
          have := whole_cut A B (by rw [← HM.out]; exact HRg.out) (by rw [← HM.out]; exact HPb.out) cc (by rw [← HFA.out]; exact hcf)
          rw [← HM.out, ← HFb.out] at this
          exact this
        refine HCr.out.mono ?_
        rintro e w8 ⟨rfl, hf8, ho8⟩
        have HI8 : Hid (RwI W 1048576 (.pointer (some ⟨g0, 0, none⟩)) g nm cc (.slice oa M.length oc) (fb.take cc) M (Grw O5 wr w8) w8) := HI.out.onl hf8 (fun k hk => hk) ho8
        have hfl : (fb.take cc).length ≤ 1000000 := by rw [List.length_take]; omega
        have HFm : Hid (∀ d ∈ fmS (fb.take cc), d.length ≤ 5000) := fun d hd => by
          rw [HJ1.out] at hd
          have := wrs_len HRg.out d (List.mem_of_mem_take hd)
          omega
        have HRp : Hid (Calls Tryz.prog 14 #[.pointer (some ⟨g0, 0, none⟩), .int .i64 1] w8 (RpPost w8 (fb.take cc))) := replay_any HI8.out.fs 1 (by decide) (.inl (by decide)) (by rw [← HNm.out]; exact sg_fe _ _ _ _) (by rw [← HNm.out]; exact sg_read _ _ _ _) hfl HFm.out
        clear hf8 ho8 HCr HKr HI HJ1 HFm
        go_wp2_with fail
        refine HRp.out.mono ?_
        rintro e w9 ⟨rv, R, rfl, hrs, -, hrq, hb9⟩
        have HI9 : Hid (RwI W 1048576 (.pointer (some ⟨g0, 0, none⟩)) g nm cc (.slice oa M.length oc) (fb.take cc) M (Grw O5 wr w8) w9) := HI8.out.below hb9
        rw [HJ2.out] at hrq
        have hRl : R.length = j := by
          have h1 := congrArg List.length hrq
          rw [List.length_map, List.length_map, List.length_take] at h1
          omega
        obtain ⟨ra, rcp, hrv, _⟩ := hrs.form
        subst hrv
        have HR9 : Hid (RsR w9 (.slice ra R.length rcp) R) := hrs
        have HM9 : Hid (RsR w9 (.slice oa M.length oc) M) := rsr_of HI9.out.ow fun x hx => (HMo.out x hx).below HI9.out.be
        have HT9 : Hid (RsR w9 (.slice oa R.length oc) (M.take R.length)) := HM9.out.take (by omega)
        have HRq : Hid (R.map Rc.q = (M.take R.length).map Rc.q) := by unfold Hid; rw [hRl]; exact hrq
        have HBe9 : Hid (Below W.heap.size W w9) := HI9.out.be
        have hsl := fun w => rsl_upto oa M.length oc R.length (by omega) w
        have k1 : (A.length : Int) ≤ (R.length : Int) := by omega
        have k2 : (R.length : Int) ≤ (M.length : Int) := by omega
        have HTl : Hid ((M.take R.length).length ≤ 100000) := by unfold Hid; rw [List.length_take]; omega
        have hRb : R.length ≤ 100000 := by omega
        clear hrs hrq hb9 HRp HI8 HI9 HJ2 HM9 hRl
        go_wp2_with fail
        refine wp_region_noPanic ?_
        refine wp_region_held_drew (S := (fun w' => Below w9.heap.size w9 w')) (by kernel_rfl) ?_ (fun hHeld => ?_)
        · exact (Below.refl _ _).drew
        refine wpAnyH_ready (rs := [0]) (by kernel_rfl) (by simp) ?_
        refine AllReadyH.cons (o := _) rfl (fun K hK => ?_) AllReadyH.nil
        go_simp
        refine (alive12_any _).mono ?_
        rintro e w10 ⟨rfl, hb10⟩
        have HB10 : Hid (Below w9.heap.size w9 w10) := (Below.refl w9.heap.size w9).drew.trans hb10
        clear hb10
        refine hK.out _ _ ?_ (fun hHeld => ?_)
        · exact HB10.out
        clear hK K
        refine wpAnyH_take (i := 1) (v := .bool true) rfl (by kernel_rfl) (by kernel_rfl) (by kernel_rfl) (fun _ _ _ h => h) (Or.inl ⟨by rfl, ?_⟩) (by assumption) ?_
        · (intro w1 hSw; (try dsimp only at hSw); go_simp)
        simp only [List.getElem_toArray, List.getElem_cons_succ, List.getElem_cons_zero, Act.put, List.setIfInBounds_toArray, List.set_cons_zero, List.set_cons_succ]
        refine wpAnyH_take (i := 2) (v := .int .i64 0) rfl (by kernel_rfl) (by kernel_rfl) (by kernel_rfl) (fun _ _ _ h => h) (Or.inl ⟨by rfl, ?_⟩) (by assumption) ?_
        · (intro w1 hSw; (try dsimp only at hSw); go_simp)
        simp only [List.getElem_toArray, List.getElem_cons_succ, List.getElem_cons_zero, Act.put, List.setIfInBounds_toArray, List.set_cons_zero, List.set_cons_succ]
        refine wpAnyH_take (i := 3) (v := .bool true) rfl (by kernel_rfl) (by kernel_rfl) (by kernel_rfl) (fun _ _ _ h => h) (Or.inl ⟨by rfl, ?_⟩) (by assumption) ?_
        · (intro w1 hSw; (try dsimp only at hSw); go_simp)
        simp only [List.getElem_toArray, List.getElem_cons_succ, List.getElem_cons_zero, Act.put, List.setIfInBounds_toArray, List.set_cons_zero, List.set_cons_succ]
        refine wpAnyH_take (i := 4) (v := .bool true) rfl (by kernel_rfl) (by kernel_rfl) (by kernel_rfl) (fun _ _ _ h => h) (Or.inl ⟨by rfl, ?_⟩) (by assumption) ?_
        · (intro w1 hSw; (try dsimp only at hSw); go_simp)
        simp only [List.getElem_toArray, List.getElem_cons_succ, List.getElem_cons_zero, Act.put, List.setIfInBounds_toArray, List.set_cons_zero, List.set_cons_succ]
        refine wpAnyH_take (i := 5) (v := .bool true) rfl (by kernel_rfl) (by kernel_rfl) (by kernel_rfl) (fun _ _ _ h => h) (Or.inl ⟨by rfl, ?_⟩) (by assumption) ?_
        · (intro w1 hSw; (try dsimp only at hSw); go_simp)
        simp only [List.getElem_toArray, List.getElem_cons_succ, List.getElem_cons_zero, Act.put, List.setIfInBounds_toArray, List.set_cons_zero, List.set_cons_succ]
        refine wpAnyH_take (i := 6) (v := .slice ra R.length rcp) rfl (by kernel_rfl) (by kernel_rfl) (by kernel_rfl) (fun _ _ _ h => h) (Or.inl ⟨by rfl, ?_⟩) (by assumption) ?_
        · (intro w1 hSw; (try dsimp only at hSw); go_simp)
        simp only [List.getElem_toArray, List.getElem_cons_succ, List.getElem_cons_zero, Act.put, List.setIfInBounds_toArray, List.set_cons_zero, List.set_cons_succ]
        refine wpAnyH_take (i := 7) (v := .int .i64 (R.length : Int)) rfl (by kernel_rfl) (by kernel_rfl) (by kernel_rfl) (fun _ _ _ h => h) (Or.inl ⟨by rfl, ?_⟩) (by assumption) ?_
        · (intro w1 hSw; (try dsimp only at hSw); go_simp)
        simp only [List.getElem_toArray, List.getElem_cons_succ, List.getElem_cons_zero, Act.put, List.setIfInBounds_toArray, List.set_cons_zero, List.set_cons_succ]
        refine wpAnyH_take (i := 8) (v := .slice v0 A.length v0c) rfl (by kernel_rfl) (by kernel_rfl) (by kernel_rfl) (fun _ _ _ h => h) (Or.inl ⟨by rfl, ?_⟩) (by assumption) ?_
        · (intro w1 hSw; (try dsimp only at hSw); go_simp)
        simp only [List.getElem_toArray, List.getElem_cons_succ, List.getElem_cons_zero, Act.put, List.setIfInBounds_toArray, List.set_cons_zero, List.set_cons_succ]
        refine wpAnyH_take (i := 9) (v := .int .i64 (A.length : Int)) rfl (by kernel_rfl) (by kernel_rfl) (by kernel_rfl) (fun _ _ _ h => h) (Or.inl ⟨by rfl, ?_⟩) (by assumption) ?_
        · (intro w1 hSw; (try dsimp only at hSw); go_simp)
        simp only [List.getElem_toArray, List.getElem_cons_succ, List.getElem_cons_zero, Act.put, List.setIfInBounds_toArray, List.set_cons_zero, List.set_cons_succ]
        refine wpAnyH_take (i := 10) (v := .bool true) rfl (by kernel_rfl) (by kernel_rfl) (by kernel_rfl) (fun _ _ _ h => h) (Or.inl ⟨by rfl, ?_⟩) (by assumption) ?_
        · (intro w1 hSw; (try dsimp only at hSw); go_simp; all_goals omega)
        simp only [List.getElem_toArray, List.getElem_cons_succ, List.getElem_cons_zero, Act.put, List.setIfInBounds_toArray, List.set_cons_zero, List.set_cons_succ]
        refine wpAnyH_take (i := 11) (v := .bool true) rfl (by kernel_rfl) (by kernel_rfl) (by kernel_rfl) (fun _ _ _ h => h) (Or.inl ⟨by rfl, ?_⟩) (by assumption) ?_
        · (intro w1 hSw; (try dsimp only at hSw); go_simp)
        simp only [List.getElem_toArray, List.getElem_cons_succ, List.getElem_cons_zero, Act.put, List.setIfInBounds_toArray, List.set_cons_zero, List.set_cons_succ]
        refine wpAnyH_take (i := 12) (v := .bool true) rfl (by kernel_rfl) (by kernel_rfl) (by kernel_rfl) (fun _ _ _ h => h) (Or.inl ⟨by rfl, ?_⟩) (by assumption) ?_
        · (intro w1 hSw; (try dsimp only at hSw); go_simp)
        simp only [List.getElem_toArray, List.getElem_cons_succ, List.getElem_cons_zero, Act.put, List.setIfInBounds_toArray, List.set_cons_zero, List.set_cons_succ]
        refine wpAnyH_take (i := 13) (v := .slice ra R.length rcp) rfl (by kernel_rfl) (by kernel_rfl) (by kernel_rfl) (fun _ _ _ h => h) (Or.inl ⟨by rfl, ?_⟩) (by assumption) ?_
        · (intro w1 hSw; (try dsimp only at hSw); go_simp)
        simp only [List.getElem_toArray, List.getElem_cons_succ, List.getElem_cons_zero, Act.put, List.setIfInBounds_toArray, List.set_cons_zero, List.set_cons_succ]
        refine wpAnyH_take (i := 14) (v := .int .i64 (R.length : Int)) rfl (by kernel_rfl) (by kernel_rfl) (by kernel_rfl) (fun _ _ _ h => h) (Or.inl ⟨by rfl, ?_⟩) (by assumption) ?_
        · (intro w1 hSw; (try dsimp only at hSw); go_simp)
        simp only [List.getElem_toArray, List.getElem_cons_succ, List.getElem_cons_zero, Act.put, List.setIfInBounds_toArray, List.set_cons_zero, List.set_cons_succ]
        refine wpAnyH_take (i := 15) (v := .slice oa M.length oc) rfl (by kernel_rfl) (by kernel_rfl) (by kernel_rfl) (fun _ _ _ h => h) (Or.inl ⟨by rfl, ?_⟩) (by assumption) ?_
        · (intro w1 hSw; (try dsimp only at hSw); go_simp)
        simp only [List.getElem_toArray, List.getElem_cons_succ, List.getElem_cons_zero, Act.put, List.setIfInBounds_toArray, List.set_cons_zero, List.set_cons_succ]
        refine wpAnyH_take (i := 16) (v := .int .i64 (M.length : Int)) rfl (by kernel_rfl) (by kernel_rfl) (by kernel_rfl) (fun _ _ _ h => h) (Or.inl ⟨by rfl, ?_⟩) (by assumption) ?_
        · (intro w1 hSw; (try dsimp only at hSw); go_simp)
        simp only [List.getElem_toArray, List.getElem_cons_succ, List.getElem_cons_zero, Act.put, List.setIfInBounds_toArray, List.set_cons_zero, List.set_cons_succ]
        refine wpAnyH_take (i := 17) (v := .bool true) rfl (by kernel_rfl) (by kernel_rfl) (by kernel_rfl) (fun _ _ _ h => h) (Or.inl ⟨by rfl, ?_⟩) (by assumption) ?_
        · (intro w1 hSw; (try dsimp only at hSw); go_simp; all_goals omega)
        simp only [List.getElem_toArray, List.getElem_cons_succ, List.getElem_cons_zero, Act.put, List.setIfInBounds_toArray, List.set_cons_zero, List.set_cons_succ]
        refine wpAnyH_take (i := 18) (v := .bool true) rfl (by kernel_rfl) (by kernel_rfl) (by kernel_rfl) (fun _ _ _ h => h) (Or.inl ⟨by rfl, ?_⟩) (by assumption) ?_
        · (intro w1 hSw; (try dsimp only at hSw); go_simp)
        simp only [List.getElem_toArray, List.getElem_cons_succ, List.getElem_cons_zero, Act.put, List.setIfInBounds_toArray, List.set_cons_zero, List.set_cons_succ]
        refine wpAnyH_take (i := 19) (v := .bool true) rfl (by kernel_rfl) (by kernel_rfl) (by kernel_rfl) (fun _ _ _ h => h) (Or.inl ⟨by rfl, ?_⟩) (by assumption) ?_
        · (intro w1 hSw; (try dsimp only at hSw); go_simp)
        simp only [List.getElem_toArray, List.getElem_cons_succ, List.getElem_cons_zero, Act.put, List.setIfInBounds_toArray, List.set_cons_zero, List.set_cons_succ]
        refine wpAnyH_take (i := 20) (v := .slice ra R.length rcp) rfl (by kernel_rfl) (by kernel_rfl) (by kernel_rfl) (fun _ _ _ h => h) (Or.inl ⟨by rfl, ?_⟩) (by assumption) ?_
        · (intro w1 hSw; (try dsimp only at hSw); go_simp)
        simp only [List.getElem_toArray, List.getElem_cons_succ, List.getElem_cons_zero, Act.put, List.setIfInBounds_toArray, List.set_cons_zero, List.set_cons_succ]
        refine wpAnyH_take (i := 22) (v := .slice oa M.length oc) rfl (by kernel_rfl) (by kernel_rfl) (by kernel_rfl) (fun _ _ _ h => h) (Or.inl ⟨by rfl, ?_⟩) (by assumption) ?_
        · (intro w1 hSw; (try dsimp only at hSw); go_simp)
        simp only [List.getElem_toArray, List.getElem_cons_succ, List.getElem_cons_zero, Act.put, List.setIfInBounds_toArray, List.set_cons_zero, List.set_cons_succ]
        refine wpAnyH_take (i := 23) (v := .slice ra R.length rcp) rfl (by kernel_rfl) (by kernel_rfl) (by kernel_rfl) (fun _ _ _ h => h) (Or.inl ⟨by rfl, ?_⟩) (by assumption) ?_
        · (intro w1 hSw; (try dsimp only at hSw); go_simp)
        simp only [List.getElem_toArray, List.getElem_cons_succ, List.getElem_cons_zero, Act.put, List.setIfInBounds_toArray, List.set_cons_zero, List.set_cons_succ]
        refine wpAnyH_take (i := 24) (v := .int .i64 (R.length : Int)) rfl (by kernel_rfl) (by kernel_rfl) (by kernel_rfl) (fun _ _ _ h => h) (Or.inl ⟨by rfl, ?_⟩) (by assumption) ?_
        · (intro w1 hSw; (try dsimp only at hSw); go_simp)
        simp only [List.getElem_toArray, List.getElem_cons_succ, List.getElem_cons_zero, Act.put, List.setIfInBounds_toArray, List.set_cons_zero, List.set_cons_succ]
        refine wpAnyH_take (i := 25) (v := .slice oa R.length oc) rfl (by kernel_rfl) (by kernel_rfl) (by kernel_rfl) (fun _ _ _ h => h) (Or.inl ⟨by rfl, ?_⟩) (by assumption) ?_
        · (intro w1 hSw; (try dsimp only at hSw); go_simp; all_goals (intro hh; omega))
        simp only [List.getElem_toArray, List.getElem_cons_succ, List.getElem_cons_zero, Act.put, List.setIfInBounds_toArray, List.set_cons_zero, List.set_cons_succ]
        refine wpAnyH_ready (rs := [21]) (by kernel_rfl) (by simp) ?_
        refine AllReadyH.cons (o := _) rfl (fun K hK => ?_) AllReadyH.nil
        go_simp
        refine (asAll_any _ R hRb _ (HR9.out.below HB10.out)).mono ?_
        rintro e w11 ⟨av, rfl, hra, hb11⟩
        have HB11 : Hid (Below w9.heap.size w9 w11) := HB10.out.trans (hb11.mono HB10.out.size)
        have HRA : Hid (RsR w11 av R) := hra
        clear hb11 hra
        refine hK.out _ _ ?_ (fun hHeld => ?_)
        · exact HB11.out
        clear hK K
        refine wpAnyH_ready (rs := [26]) (by kernel_rfl) (by simp) ?_
        refine AllReadyH.cons (o := _) rfl (fun K hK => ?_) AllReadyH.nil
        go_simp
        refine (asAll_any (.slice oa R.length oc) (M.take R.length) HTl.out _ (HT9.out.below HB11.out)).mono ?_
        rintro e w12 ⟨qv, rfl, hrb, hb12⟩
        have HB12 : Hid (Below w9.heap.size w9 w12) := HB11.out.trans (hb12.mono HB11.out.size)
        have HSm : Hid (Calls Tryz.prog 22 #[av, qv] w12 fun e w' => e = .returned (.bool true) ∧ Below w12.heap.size w12 w') := sameAll_true av qv R (M.take R.length) HRq.out w12 (HRA.out.below hb12) hrb
        clear hb12 hrb
        refine hK.out _ _ ?_ (fun hHeld => ?_)
        · exact HB12.out
        clear hK K
        refine wpAnyH_ready (rs := [27]) (by kernel_rfl) (by simp) ?_
        refine AllReadyH.cons (o := _) rfl (fun K hK => ?_) AllReadyH.nil
        go_simp
        refine HSm.out.mono ?_
        rintro e w13 ⟨rfl, hb13⟩
        have HB13 : Hid (Below w9.heap.size w9 w13) := HB12.out.trans (hb13.mono HB12.out.size)
        clear hb13
        refine hK.out _ _ ?_ (fun hHeld => ?_)
        · exact HB13.out
        clear hK K
        refine wpAnyH_take (i := 28) (v := .bool true) rfl (by kernel_rfl) (by kernel_rfl) (by kernel_rfl) (fun _ _ _ h => h) (Or.inl ⟨by rfl, ?_⟩) (by assumption) ?_
        · (intro w1 hSw; (try dsimp only at hSw); go_simp)
        simp only [List.getElem_toArray, List.getElem_cons_succ, List.getElem_cons_zero, Act.put, List.setIfInBounds_toArray, List.set_cons_zero, List.set_cons_succ]
        refine wpAnyH_take (i := 29) (v := .bool true) rfl (by kernel_rfl) (by kernel_rfl) (by kernel_rfl) (fun _ _ _ h => h) (Or.inl ⟨by rfl, ?_⟩) (by assumption) ?_
        · (intro w1 hSw; (try dsimp only at hSw); go_simp)
        simp only [List.getElem_toArray, List.getElem_cons_succ, List.getElem_cons_zero, Act.put, List.setIfInBounds_toArray, List.set_cons_zero, List.set_cons_succ]
        refine wpAnyH_done (by kernel_rfl) ?_ _
        refine NoPanic.normal ?_
        go_wp2_with fail
        go_ret
        exact ⟨rfl, HBe9.out.trans (HB13.out.mono HBe9.out.size)⟩
end Go.Proofs.YtahigmjpeicemaaGreatDoor
