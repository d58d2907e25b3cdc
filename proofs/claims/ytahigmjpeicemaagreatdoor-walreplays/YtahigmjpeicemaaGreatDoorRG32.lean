/- WRp, joined. -/
import Derived.Test.YtahigmjpeicemaaGreatDoorRG31
/- WalReplays: what stands in a round; the walk (written by mkwrp.py). -/
namespace Go.Proofs.YtahigmjpeicemaaGreatDoor
open Go.RowKit Go.Shelf

theorem rcF_len : ∀ ds : List (List UInt8), (rcF ds).length ≤ ds.length
  | [] => Nat.le_refl _
  | d :: ds => by
    have ih := rcF_len ds
    rw [rcF]
    split
    · simp
    · simp only [List.length_cons]; omega
/-- What stands: fb is the file's bytes, bs what o reads. -/
structure RpI (W : World) (room : Int) (p : Value) (g : Nat) (nm : List UInt8) (sy : Nat) (o : Value) (fb bs : List UInt8) (O : Nat → Prop) (wr : World) : Prop where
  fs : Fs wr O p (SgS room nm fb sy)
  lo : ∀ k, O k → W.heap.size ≤ k
  lg : LgAt wr g p nm
  go : ¬ O g
  ow : BOwn wr o bs
  ok : ∀ k, o.ownBlock = some k → ¬ O k ∧ W.heap.size ≤ k ∧ k < wr.heap.size ∧ k ≠ g
  be : Below W.heap.size W wr
theorem RpI.below {W : World} {room : Int} {p : Value} {g : Nat} {nm : List UInt8} {sy : Nat} {o : Value} {fb bs : List UInt8} {O : Nat → Prop} {wr w' : World} (h : RpI W room p g nm sy o fb bs O wr) (hb : Below wr.heap.size wr w') : RpI W room p g nm sy o fb bs O w' :=
  ⟨h.fs.below hb, h.lo, h.lg.onl (O := O) (onl_of_below hb) h.go, h.go, h.ow.keep fun k hk => hb.block k (h.ok k hk).2.2.1, fun k hk => ⟨(h.ok k hk).1, (h.ok k hk).2.1, Nat.lt_of_lt_of_le (h.ok k hk).2.2.1 hb.size, (h.ok k hk).2.2.2⟩, h.be.trans (hb.mono h.be.size)⟩
theorem RpI.onl {W : World} {room : Int} {p : Value} {g : Nat} {nm : List UInt8} {sy sy' : Nat} {o : Value} {fb fb' bs : List UInt8} {O O' : Nat → Prop} {wr w' : World} (h : RpI W room p g nm sy o fb bs O wr) (hf : Fs w' O' p (SgS room nm fb' sy')) (hO : ∀ k, O' k → Grw O wr w' k) (ho : Onl O wr w') : RpI W room p g nm sy' o fb' bs O' w' := by
  have hgl : g < wr.heap.size := (Array.getElem?_eq_some_iff.1 h.lg).1
  have hbs := h.be.size
  refine ⟨hf, fun k hk => ?_, h.lg.onl ho h.go, fun hk => ?_, h.ow.keep fun k hk => ho.block k (h.ok k hk).2.2.1 (h.ok k hk).1, fun k hk => ⟨fun hq => ?_, (h.ok k hk).2.1, Nat.lt_of_lt_of_le (h.ok k hk).2.2.1 ho.size, (h.ok k hk).2.2.2⟩, h.be.trans (ho.below hbs h.lo)⟩
  · rcases hO k hk with q | q
    · exact h.lo k q
    · omega
  · rcases hO g hk with q | q
    · exact h.go q
    · omega
  · rcases hO k hq with q | q
    · exact (h.ok k hk).1 q
    · have := (h.ok k hk).2.2.1; omega
theorem RpI.app {W : World} {room : Int} {p : Value} {g : Nat} {nm : List UInt8} {sy : Nat} {o : Value} {fb bs c : List UInt8} {O : Nat → Prop} {wr : World} (h : RpI W room p g nm sy o fb bs O wr) (ty : TypeId) (cv : Value) (hc : Reads wr cv c) (hl : bs.length + c.length ≤ 140737488355328) :
    ∃ v' w', (Builtin.append_ #[28, 28] ty #[o, cv]).run Tryz.prog wr = .ok v' w' ∧ RpI W room p g nm sy v' fb (bs ++ c) O w' := by
  obtain ⟨v', w', h1, h2, h3, h4⟩ := run_bapp ty o cv bs c h.ow hc hl
  have hgl : g < wr.heap.size := (Array.getElem?_eq_some_iff.1 h.lg).1
  have hbs := h.be.size
  have hsz := h3.size
  refine ⟨v', w', h1, h.fs.keep (fun k hk => h3.block k (h.fs.lt k hk) (fun e => (h.ok k e.symm).1 hk)) hsz, h.lo, (h3.block g hgl (fun e => (h.ok g e.symm).2.2.2 rfl)).trans h.lg, h.go, h2, fun k hk => ?_, h.be.grown h3 hbs (fun k hk => (h.ok k hk).2.1)⟩
  rcases h4 k hk with q | q
  · have := h.ok k q; exact ⟨this.1, this.2.1, by omega, this.2.2.2⟩
  · exact ⟨fun hO => by have := h.fs.lt k hO; omega, by omega, q.2, by omega⟩
set_option maxRecDepth 100000 in
set_option maxHeartbeats 40000000 in
theorem replays_walk (n : Int) (lv : Value) (L : List Rc) (jv : Value) (J : List UInt8) (room : Int) (W : World) (hl : RsR W lv L) (hj : Reads W jv J) (hr2 : room < 9223372036854775808) (hT : Tb W) :
    Calls Tryz.prog 4 #[.int .i64 n, lv, jv, .int .i64 room] W fun e w' => e = .returned (.bool true) ∧ Below W.heap.size W w' := by
  obtain ⟨la, lc, rfl, hlm⟩ := hl.form
  obtain ⟨ja, jc, rfl, hjm⟩ := hj.form
  unfold maxLen at hlm hjm
  have HLr : Hid (RsR W (.slice la L.length lc) L) := hl
  have HJr : Hid (Reads W (.slice ja J.length jc) J) := hj
  have HT : Hid (Tb W) := hT
  clear hl hj hT
  by_cases h20 : (20 : Int) < (L.length : Int)
  · go_enter Tryz.func4, Tryz.ntmps4
    go_wp2_with fail
    refine (alive12_any _).mono ?_
    rintro e w1 ⟨rfl, hb1⟩
    go_wp2_with fail
    go_ret
    exact ⟨rfl, hb1⟩
  by_cases h500 : (500 : Int) < (J.length : Int)
  · go_enter Tryz.func4, Tryz.ntmps4
    go_wp2_with fail
    refine (alive12_any _).mono ?_
    rintro e w1 ⟨rfl, hb1⟩
    go_wp2_with fail
    go_ret
    exact ⟨rfl, hb1⟩
  by_cases hr1 : room < 1
  · go_enter Tryz.func4, Tryz.ntmps4
    go_wp2_with fail
    refine (new_no room _ hr1).mono ?_
    rintro e w1 ⟨rfl, hw⟩
    subst w1
    go_wp2_with fail
    refine (alive12_any _).mono ?_
    rintro e w1 ⟨rfl, hb1⟩
    go_wp2_with fail
    go_ret
    exact ⟨rfl, hb1⟩
  go_enter Tryz.func4, Tryz.ntmps4
  go_wp2_with fail
  refine (fs_new room _ (by omega) hr2).mono ?_
  rintro e w1 ⟨p, rfl, hf1, hb1⟩
  obtain ⟨g0, rfl⟩ := hf1.ptr
  have HF1 : Hid (Fs w1 (fun k => W.heap.size ≤ k ∧ k < w1.heap.size) (.pointer (some ⟨g0, 0, none⟩)) (sfZ room)) := hf1
  have HB1 : Hid (Below W.heap.size W w1) := hb1
  clear hf1 hb1
  go_wp2_with fail
  refine (start_any HF1.out n (by show (0 : Nat) < _; decide) (.inr (HT.out.below HB1.out))).mono ?_
  rintro e w2 ⟨lgv, O2, rfl, hf2, hg2, ho2, hlg⟩
  cases hno : isNo n with
  | false =>
    have hq := isNo_iff (n := n)
    rw [sg_start_no hno] at hf2 hlg ⊢
    simp only at hf2 hlg ⊢
    rcases hlg with ⟨_, rfl⟩ | ⟨h0, _⟩
    · have HF2 : Hid (Fs w2 O2 (.pointer (some ⟨g0, 0, none⟩)) (sfZ room)) := hf2
      have HB2 : Hid (Below W.heap.size W w2) := HB1.out.trans (ho2.below HB1.out.size (fun k hk => hk.1))
      have HNo : Hid (isNo n = false) := hno
      have hn0 : ¬ (1 ≤ n ∧ n ≤ 1099511627776) := by rw [← hq, hno]; simp
      clear hf2 hg2 ho2 hq hno
      by_cases hn1 : (1 : Int) ≤ n
      · have hn2 : ¬ n ≤ 1099511627776 := fun h => hn0 ⟨hn1, h⟩
        clear hn0
        go_wp2_with fail
        refine (replay_none _ n HNo.out _).mono ?_
        rintro e w3 ⟨rfl, hw⟩
        subst w3
        go_wp2_with fail
        refine (alive12_any _).mono ?_
        rintro e w3 ⟨rfl, hb3⟩
        have HB3 : Hid (Below W.heap.size W w3) := HB2.out.trans (hb3.mono HB2.out.size)
        go_wp2_with fail
        refine ((HF2.out.below hb3).list).mono ?_
        rintro e w4 ⟨v4, rfl, hr4, hb4⟩
        obtain ⟨ra, rc, hrv⟩ := row_formS hr4
        subst hrv
        go_wp2_with fail
        go_ret
        exact ⟨rfl, HB3.out.trans (hb4.mono HB3.out.size)⟩
      · clear hn0
        go_wp2_with fail
        refine (replay_none _ n HNo.out _).mono ?_
        rintro e w3 ⟨rfl, hw⟩
        subst w3
        go_wp2_with fail
        refine (alive12_any _).mono ?_
        rintro e w3 ⟨rfl, hb3⟩
        have HB3 : Hid (Below W.heap.size W w3) := HB2.out.trans (hb3.mono HB2.out.size)
        go_wp2_with fail
        refine ((HF2.out.below hb3).list).mono ?_
        rintro e w4 ⟨v4, rfl, hr4, hb4⟩
        obtain ⟨ra, rc, hrv⟩ := row_formS hr4
        subst hrv
        go_wp2_with fail
        go_ret
        exact ⟨rfl, HB3.out.trans (hb4.mono HB3.out.size)⟩
    · cases h0
  | true =>
    obtain ⟨hn1, hn2⟩ := isNo_iff.1 hno
    rw [sg_start hno] at hf2 hlg ⊢
    simp only at hf2 hlg ⊢
    obtain ⟨nm, HNm⟩ := hid_ex (nmF seg n)
    rw [← HNm.out] at hf2 hlg
    have HNl : Hid (nm.length ≤ maxLen) := by unfold Hid; rw [HNm.out]; have := nm_len (n := n); unfold maxLen; omega
    rcases hlg with ⟨h0, _⟩ | ⟨_, g, rfl, hlg, hgo, hgs⟩
    · exact absurd rfl h0
    have HI0 : Hid (RpI W room (.pointer (some ⟨g0, 0, none⟩)) g nm 0 (.slice none 0 0) [] [] O2 w2) := by
      have hb2 := HB1.out.trans (ho2.below HB1.out.size (fun k hk => hk.1))
      refine ⟨hf2, fun k hk => ?_, hlg, hgo, GOwn.nil _ _ _, fun k hk => by simp [Value.ownBlock] at hk, hb2⟩
      rcases hg2 k hk with q | q
      · exact q.1
      · have := HB1.out.size; omega
    have HNo : Hid (isNo n = true) := hno
    clear hf2 hg2 ho2 hlg hgo hgs HF1 hno
    go_wp2_with fail
    go_loopw [15, 16] (fun o i wr => ∃ (k : Nat) (bs : List UInt8) (ds : List (List UInt8)) (O : Nat → Prop), i = .int .i64 (k : Int) ∧ k ≤ L.length ∧ bs.length ≤ 2708 * k ∧ Hid (Frs bs ds) ∧ Hid (RpI W room (.pointer (some ⟨g0, 0, none⟩)) g nm 0 o bs bs O wr)) (fun _ i _ => L.length - (intOf i).toNat)
    case atStart => exact ⟨0, [], [], O2, rfl, by omega, by simp, frs_nil, HI0⟩
    case round =>
      obtain ⟨k, bs, ds, O, rfl, hk, hbl, HFr, HI⟩ := hrel
      by_cases hlt : k < L.length
      · have hlt' : (k : Int) < (L.length : Int) := by omega
        obtain ⟨x, Hx⟩ := hid_ex L[k]
        obtain ⟨b, off, rfl, hbw, c0, c1, hok⟩ := HLr.out.two hlt Hx.out
        obtain ⟨xa, xc, hxv, _⟩ := hok.f.form
        have HOk : Hid (RcOk W x) := hok
        obtain ⟨Xv, HXv⟩ := hid_ex x.val
        have HXv2 : Hid (x.val = .agg #[.slice xa x.fs.length xc, .int .i64 x.m]) := by unfold Hid Rc.val; rw [hxv]
        have HGr : Hid (∀ w, RcOk w x → Calls Tryz.prog 16 #[x.val] w (GrPost w)) := fun w hw => great_any x w hw
        have HAs : Hid (∀ w, RcOk w x → Calls Tryz.prog 18 #[x.val] w fun e w' => e = .returned x.val ∧ Below w.heap.size w w') := fun w hw => as_any x w hw
        have HWr : Hid (∀ w, RcOk w x → Calls Tryz.prog 17 #[x.val] w fun e w' => ∃ v, e = .returned (.tuple #[v, .int .i64 (wrE x)]) ∧ Own w' w.heap.size v (wrB x) ∧ Below w.heap.size w w') := fun w hw => wrefWrite_any x w hw
        have HAd : Hid (∀ w, RcOk w x → RpI W room (.pointer (some ⟨g0, 0, none⟩)) g nm 0 u15 bs bs O w → Calls Tryz.prog 20 #[.pointer (some ⟨g, 0, none⟩), x.val] w (AdPost w O (.pointer (some ⟨g0, 0, none⟩)) (lgAdd (SgS room nm bs 0) nm x))) := fun w hw hi => logAdd_any hi.fs hi.lg hi.go HNl.out x hw
        rw [HXv2.out] at HGr HAs HWr HAd
        rw [hxv] at c0
        have HC0 : Hid (W.cell? ⟨b, off + k * 2, none⟩ = some (.slice xa x.fs.length xc)) := c0
        have HC1 : Hid (W.cell? ⟨b, off + k * 2 + 1, none⟩ = some (.int .i64 x.m)) := c1
        have HBw : Hid (b < W.heap.size) := hbw
        generalize x.fs.length = xn at *
        obtain ⟨xm, HXm⟩ := hid_ex x.m
        rw [← HXm.out] at HC1 HGr HAs HWr HAd
        clear hok hxv c0 c1 HXv HXv2 Hx hbw
        have c0 := (HI.out.be.cell (p := ⟨b, off + k * 2, none⟩) HBw.out).trans HC0.out
        have c1 := (HI.out.be.cell (p := ⟨b, off + k * 2 + 1, none⟩) HBw.out).trans HC1.out
        go_wp2_with fail
        refine (HGr.out _ (HOk.out.below HI.out.be)).mono ?_
        rintro e w3 ⟨gb, rfl, hb3⟩
        have HI3 : Hid (RpI W room (.pointer (some ⟨g0, 0, none⟩)) g nm 0 u15 bs bs O w3) := HI.out.below hb3
        clear hb3 HGr c0 c1
        cases gb with
        | true =>
          go_wp2_with fail
          refine (alive12_any _).mono ?_
          rintro e w4 ⟨rfl, hb4⟩
          go_wp2_with fail
          go_ret
          exact ⟨rfl, (HI3.out.below hb4).be⟩
        | false =>
          have c0 := (HI3.out.be.cell (p := ⟨b, off + k * 2, none⟩) HBw.out).trans HC0.out
          have c1 := (HI3.out.be.cell (p := ⟨b, off + k * 2 + 1, none⟩) HBw.out).trans HC1.out
          go_wp2_with fail
          refine (HAs.out _ (HOk.out.below HI3.out.be)).mono ?_
          rintro e w4 ⟨rfl, hb4⟩
          have HI4 : Hid (RpI W room (.pointer (some ⟨g0, 0, none⟩)) g nm 0 u15 bs bs O w4) := HI3.out.below hb4
          clear hb4 HAs c0 c1
          go_wp2_with fail
          refine (HWr.out _ (HOk.out.below HI4.out.be)).mono ?_
          rintro e w5 ⟨bv, rfl, how, hb5⟩
          have HI5 : Hid (RpI W room (.pointer (some ⟨g0, 0, none⟩)) g nm 0 u15 bs bs O w5) := HI4.out.below hb5
          obtain ⟨D, HD⟩ := hid_ex (wrB x)
          rw [← HD.out] at how
          have HOw : Hid (Reads w5 bv D) := how.reads
          obtain ⟨ba, bcp, rfl, _⟩ := how.form
          have HDl : Hid (D.length ≤ 2700) := by
            unfold Hid; rw [HD.out]; unfold wrB
            split
            · rename_i hh; exact wrR_len hh
            · simp
          obtain ⟨E, HE⟩ := hid_ex (wrE x)
          rw [← HE.out]
          clear hb5 HWr how
          go_wp2_with fail
          refine (refFrame_any _ D (by have := HDl.out; omega) _ HOw.out).mono ?_
          rintro e w6 ⟨cv, rfl, hoc, hb6⟩
          have HI6 : Hid (RpI W room (.pointer (some ⟨g0, 0, none⟩)) g nm 0 u15 bs bs O w6) := HI5.out.below hb6
          obtain ⟨C, HC⟩ := hid_ex (frm D)
          have HCl : Hid (C.length = D.length + 8) := by unfold Hid; rw [HC.out, frm_len]
          have hcl2 : C.length ≤ 2708 := by have := HCl.out; have := HDl.out; omega
          clear HCl
          rw [← HC.out] at hoc
          have HOc : Hid (Own w6 w5.heap.size cv C) := hoc
          have h56 := hb6.size
          have HLt : Hid (∀ k, O k → k < w5.heap.size) := fun k hk => HI5.out.fs.lt k hk
          obtain ⟨ca, cc, hcv, _⟩ := hoc.form
          subst hcv
          obtain ⟨oa, oc, hov, -⟩ := GOwn.form HI6.out.ow
          have c0 := (HI6.out.be.cell (p := ⟨b, off + k * 2, none⟩) HBw.out).trans HC0.out
          have c1 := (HI6.out.be.cell (p := ⟨b, off + k * 2 + 1, none⟩) HBw.out).trans HC1.out
          have HAd6 : Hid (Calls Tryz.prog 20 #[.pointer (some ⟨g, 0, none⟩), .agg #[.slice xa xn xc, .int .i64 xm]] w6 (AdPost w6 O (.pointer (some ⟨g0, 0, none⟩)) (lgAdd (SgS room nm bs 0) nm x))) := HAd.out _ (HOk.out.below HI6.out.be) HI6.out
          subst hov
          clear hoc hb6 HAd HOw
          by_cases hrt : rightR x.p x.m = true
          · have hE : E = 0 := by rw [HE.out]; unfold wrE; rw [if_pos hrt]
            have HDr : Hid (D = wrR x.p x.m) := by unfold Hid; rw [HD.out]; unfold wrB; rw [if_pos hrt]
            have HA1 : Hid (lgAdd (SgS room nm bs 0) nm x = if room < ((bs.length + C.length : Nat) : Int) then (81, SgS room nm bs 0) else (0, SgS room nm (bs ++ C) 0)) := by
              unfold Hid
              rw [lg_yes hrt, ← HDr.out, ← HC.out, sg_append]
              omega
            subst hE
            clear hrt HE HD HDr
            by_cases hrm : room < ((bs.length + C.length : Nat) : Int)
            · have hcmp : room - (bs.length : Int) < (C.length : Int) := by omega
              rw [HA1.out, if_pos hrm] at HAd6
              clear HA1 hrm
              go_wp2_with fail
              refine HAd6.out.mono ?_
              rintro e w7 ⟨O7, rfl, hf7, hg7, ho7⟩
              have HI7 : Hid (RpI W room (.pointer (some ⟨g0, 0, none⟩)) g nm 0 (.slice oa bs.length oc) bs bs O7 w7) := HI6.out.onl hf7 hg7 ho7
              clear hf7 hg7 ho7
              go_wp2_with fail
              go_roundw
              case rel => exact ⟨k + 1, bs, ds, O7, by go_num, by omega, by omega, HFr, HI7⟩
              case measure => simp [intOf]; omega
            · have hcmp : ¬ room - (bs.length : Int) < (C.length : Int) := by omega
              rw [HA1.out, if_neg hrm] at HAd6
              clear HA1 hrm
              go_wp2_with fail
              refine HAd6.out.mono ?_
              rintro e w7 ⟨O7, rfl, hf7, hg7, ho7⟩
              have HI7 : Hid (RpI W room (.pointer (some ⟨g0, 0, none⟩)) g nm 0 (.slice oa bs.length oc) (bs ++ C) bs O7 w7) := HI6.out.onl hf7 hg7 ho7
              have HRc : Hid (Reads w7 (.slice ca C.length cc) C) := Own.reads (row_new HOc.out (fun k h1 h2 => ho7.block k h2 (fun z => by have := HLt.out k z; omega)))
              clear hf7 hg7 ho7
              obtain ⟨v8, w8, hrun, hi8⟩ := HI7.out.app 28 _ HRc.out (by omega)
              have HI8 : Hid (RpI W room (.pointer (some ⟨g0, 0, none⟩)) g nm 0 v8 (bs ++ C) (bs ++ C) O7 w8) := hi8
              have HFr8 : Hid (Frs (bs ++ C) (ds ++ [D])) := by unfold Hid; rw [HC.out]; exact HFr.out.snoc HDl.out
              have hl8 : (bs ++ C).length ≤ 2708 * (k + 1) := by rw [List.length_append]; omega
              clear hi8 HRc
              go_wp2_with (at_builtin; refine wpList_app_runG rfl _ _ 28 28 rfl rfl _ _ _ rfl rfl hrun ?_)
              go_roundw
              case rel => exact ⟨k + 1, bs ++ C, ds ++ [D], O7, by go_num, by omega, hl8, HFr8, HI8⟩
              case measure => simp [intOf]; omega
          · have hE : E = 90 := by rw [HE.out]; unfold wrE; rw [if_neg hrt]
            have HA1 : Hid (lgAdd (SgS room nm bs 0) nm x = (90, SgS room nm bs 0)) := lg_no (by simpa using hrt)
            subst hE
            rw [HA1.out] at HAd6
            clear hrt HE HD HA1
            go_wp2_with fail
            refine HAd6.out.mono ?_
            rintro e w7 ⟨O7, rfl, hf7, hg7, ho7⟩
            have HI7 : Hid (RpI W room (.pointer (some ⟨g0, 0, none⟩)) g nm 0 (.slice oa bs.length oc) bs bs O7 w7) := HI6.out.onl hf7 hg7 ho7
            clear hf7 hg7 ho7
            go_wp2_with fail
            go_roundw
            case rel => exact ⟨k + 1, bs, ds, O7, by go_num, by omega, by omega, HFr, HI7⟩
            case measure => simp [intOf]; omega
      · have hlt' : ¬ (k : Int) < (L.length : Int) := by omega
        have HTr : Hid (Tb wr) := HT.out.below HI.out.be
        obtain ⟨oa, oc, hov, -⟩ := GOwn.form HI.out.ow
        subst hov
        go_wp2_with fail
        refine (name_any seg (by decide) n _ (.inr HTr.out)).mono ?_
        rintro e w3 ⟨rfl, hb3⟩
        rw [← HNm.out]
        have HI3 : Hid (RpI W room (.pointer (some ⟨g0, 0, none⟩)) g nm 0 (.slice oa bs.length oc) bs bs O w3) := HI.out.below hb3
        have HRJ : Hid (∀ w', Onl O w3 w' → Reads w' (.slice ja J.length jc) J) := fun w' ho => HJr.out.below (HI3.out.be.trans (ho.below HI3.out.be.size HI3.out.lo))
        have HAp : Hid (Calls Tryz.prog 21 #[.pointer (some ⟨g0, 0, none⟩), .string ⟨nm.toArray⟩, .slice ja J.length jc] w3 (FsR w3 O (.pointer (some ⟨g0, 0, none⟩)) (sfAppend (SgS room nm bs 0) nm J))) := HI3.out.fs.append nm HNl.out _ J HRJ.out
        rw [sg_append room nm bs 0 J (by omega)] at HAp
        clear hb3
        by_cases hrm : room < ((bs.length + J.length : Nat) : Int)
        · rw [if_pos hrm] at HAp
          go_wp2_with fail
          refine HAp.out.mono ?_
          rintro e w4 ⟨rfl, hf4, ho4⟩
          have HI5 : Hid (RpI W room (.pointer (some ⟨g0, 0, none⟩)) g nm 0 (.slice oa bs.length oc) bs bs (Grw O w3 w4) w4) := HI3.out.onl hf4 (fun k hk => hk) ho4
          have HBd : Hid (∀ d ∈ fmS bs, d.length ≤ 5000) := by have := HFr.out.bd (j := []) (by simp); simpa [Hid] using this
          have hfl : bs.length ≤ 60000 := by omega
          generalize Grw O w3 w4 = O5 at HI5
          clear hf4 ho4 HAp hrm HRJ HI3 HI HTr
          have HRp : Hid (Calls Tryz.prog 14 #[.pointer (some ⟨g0, 0, none⟩), .int .i64 n] w4 (RpPost w4 bs)) := replay_any HI5.out.fs n HNo.out (.inr (HT.out.below HI5.out.be)) (by rw [← HNm.out]; exact sg_fe _ _ _ _) (by rw [← HNm.out]; exact sg_read _ _ _ _) (by omega) HBd.out
          go_wp2_with fail
          have HLt : Hid (∀ k, O5 k → k < w4.heap.size) := fun k hk => HI5.out.fs.lt k hk
          refine HRp.out.mono ?_
          rintro e w8 ⟨rv, R, rfl, hrs, hag, hrq, hb8⟩
          have HI8 : Hid (RpI W room (.pointer (some ⟨g0, 0, none⟩)) g nm 0 (.slice oa bs.length oc) bs bs O5 w8) := HI5.out.below hb8
          have hRl : R.length ≤ 100000 := by
            have h1 := congrArg List.length hrq
            rw [List.length_map] at h1
            have h2 := rcF_len (fmS bs)
            have h3 := fmS_cnt bs
            omega
          have HAg : Hid (∀ B : World, (∀ k, w4.heap.size ≤ k → k < w8.heap.size → B.heap[k]? = w8.heap[k]?) → RsR B rv R) := hag
          have HRq : Hid (R.map Rc.q = rcF (fmS bs)) := hrq
          obtain ⟨ra, rc, hrv, _⟩ := hrs.form
          subst hrv
          have HSt : Hid (Calls Tryz.prog 13 #[.pointer (some ⟨g0, 0, none⟩), .int .i64 n] w8 (StPost w8 O5 (.pointer (some ⟨g0, 0, none⟩)) (SgS room nm bs 0) n)) := start_any HI8.out.fs n (by show (0 : Nat) < _; decide) (.inr (HT.out.below HI8.out.be))
          clear hrs hag hrq hb8 HI5 HRp
          go_wp2_with fail
          refine HSt.out.mono ?_
          rintro e w9 ⟨lgv, O9, rfl, hf9, hg9, ho9, hlg9⟩
          have e80 : stF (SgS room nm bs 0) n = (80, SgS room nm bs 0) := by rw [HNm.out]; exact sg_again HNo.out _ _ _
          rw [e80] at hf9 hlg9 ⊢
          simp only at hf9 hlg9 ⊢
          have hlv : lgv = .pointer none := by
            rcases hlg9 with ⟨_, q⟩ | ⟨q, _⟩
            · exact q
            · cases q
          subst hlv
          have HI9 : Hid (RpI W room (.pointer (some ⟨g0, 0, none⟩)) g nm 0 (.slice oa bs.length oc) bs bs O9 w9) := HI8.out.onl hf9 hg9 ho9
          have HR9 : Hid (RsR w9 (.slice ra R.length rc) R) := HAg.out w9 fun k h1 h2 => ho9.block k h2 (fun z => by have := HLt.out k z; omega)
          clear hf9 hg9 ho9 hlg9 HSt HAg HLt e80 HI8
          go_wp2_with fail
          refine (alive12_any _).mono ?_
          rintro e w10 ⟨rfl, hb10⟩
          have HI10 : Hid (RpI W room (.pointer (some ⟨g0, 0, none⟩)) g nm 0 (.slice oa bs.length oc) bs bs O9 w10) := HI9.out.below hb10
          have HR10 : Hid (RsR w10 (.slice ra R.length rc) R) := HR9.out.below hb10
          clear hb10 HR9 HI9
          go_wp2_with fail
          refine (asAll_any _ R hRl _ HR10.out).mono ?_
          rintro e w11 ⟨av, rfl, hra, hb11⟩
          have HI11 : Hid (RpI W room (.pointer (some ⟨g0, 0, none⟩)) g nm 0 (.slice oa bs.length oc) bs bs O9 w11) := HI10.out.below hb11
          have HRA : Hid (RsR w11 av R) := hra
          clear hb11 HR10 hra HI10
          go_wp2_with fail
          refine (records_any _ bs (by omega) HBd.out _ HI11.out.ow.reads).mono ?_
          rintro e w12 ⟨qv, Q, rfl, hrq, hqq, hb12⟩
          have HI12 : Hid (RpI W room (.pointer (some ⟨g0, 0, none⟩)) g nm 0 (.slice oa bs.length oc) bs bs O9 w12) := HI11.out.below hb12
          have HSm : Hid (Calls Tryz.prog 22 #[av, qv] w12 fun e w' => e = .returned (.bool true) ∧ Below w12.heap.size w12 w') := sameAll_true av qv R Q (HRq.out.trans hqq.symm) w12 (HRA.out.below hb12) hrq
          clear hb12 HRA hrq hqq HI11
          go_wp2_with fail
          refine HSm.out.mono ?_
          rintro e w13 ⟨rfl, hb13⟩
          have HI13 : Hid (RpI W room (.pointer (some ⟨g0, 0, none⟩)) g nm 0 (.slice oa bs.length oc) bs bs O9 w13) := HI12.out.below hb13
          have HSy : Hid (Calls Tryz.prog 25 #[.pointer (some ⟨g, 0, none⟩)] w13 (FsR w13 O9 (.pointer (some ⟨g0, 0, none⟩)) (sfSync (SgS room nm bs 0) nm))) := logSync_any HI13.out.fs HI13.out.lg HI13.out.go HNl.out
          rw [sg_sync] at HSy
          clear hb13 HSm HI12
          go_wp2_with fail
          refine HSy.out.mono ?_
          rintro e w14 ⟨rfl, hf14, ho14⟩
          have HI14 : Hid (RpI W room (.pointer (some ⟨g0, 0, none⟩)) g nm bs.length (.slice oa bs.length oc) bs bs (Grw O9 w13 w14) w14) := HI13.out.onl hf14 (fun k hk => hk) ho14
          go_wp2_with fail
          go_ret
          exact ⟨rfl, HI14.out.be⟩
        · rw [if_neg hrm] at HAp
          go_wp2_with fail
          refine HAp.out.mono ?_
          rintro e w4 ⟨rfl, hf4, ho4⟩
          have HI4 : Hid (RpI W room (.pointer (some ⟨g0, 0, none⟩)) g nm 0 (.slice oa bs.length oc) (bs ++ J) bs (Grw O w3 w4) w4) := HI3.out.onl hf4 (fun k hk => hk) ho4
          obtain ⟨v5, w5, hrun, hi5⟩ := HI4.out.app 28 _ (HRJ.out _ ((Onl.refl _ _).then ho4)) (by omega)
          have HI5 : Hid (RpI W room (.pointer (some ⟨g0, 0, none⟩)) g nm 0 v5 (bs ++ J) (bs ++ J) (Grw O w3 w4) w5) := hi5
          have HBd : Hid (∀ d ∈ fmS (bs ++ J), d.length ≤ 5000) := HFr.out.bd (by omega)
          generalize Grw O w3 w4 = O5 at HI5
          have hfl0 : (bs ++ J).length ≤ 60000 := by rw [List.length_append]; omega
          obtain ⟨fb, HFb⟩ := hid_ex (bs ++ J)
          have hfl : fb.length ≤ 60000 := by rw [HFb.out]; exact hfl0
          rw [← HFb.out] at HI5 HBd
          clear hf4 ho4 HAp hrm HI4 hi5 HRJ HI3 HI HTr hfl0
          go_wp2_with (at_builtin; refine wpList_app_runG rfl _ _ 28 28 rfl rfl _ _ _ rfl rfl hrun ?_)
          have HRp : Hid (Calls Tryz.prog 14 #[.pointer (some ⟨g0, 0, none⟩), .int .i64 n] w5 (RpPost w5 fb)) := replay_any HI5.out.fs n HNo.out (.inr (HT.out.below HI5.out.be)) (by rw [← HNm.out]; exact sg_fe _ _ _ _) (by rw [← HNm.out]; exact sg_read _ _ _ _) (by omega) HBd.out
          obtain ⟨ta, tc, htv, -⟩ := GOwn.form HI5.out.ow
          subst htv
          have HLt : Hid (∀ k, O5 k → k < w5.heap.size) := fun k hk => HI5.out.fs.lt k hk
          refine HRp.out.mono ?_
          rintro e w8 ⟨rv, R, rfl, hrs, hag, hrq, hb8⟩
          have HI8 : Hid (RpI W room (.pointer (some ⟨g0, 0, none⟩)) g nm 0 (.slice ta fb.length tc) fb fb O5 w8) := HI5.out.below hb8
          have hRl : R.length ≤ 100000 := by
            have h1 := congrArg List.length hrq
            rw [List.length_map] at h1
            have h2 := rcF_len (fmS fb)
            have h3 := fmS_cnt fb
            omega
          have HAg : Hid (∀ B : World, (∀ k, w5.heap.size ≤ k → k < w8.heap.size → B.heap[k]? = w8.heap[k]?) → RsR B rv R) := hag
          have HRq : Hid (R.map Rc.q = rcF (fmS fb)) := hrq
          obtain ⟨ra, rc, hrv, _⟩ := hrs.form
          subst hrv
          have HSt : Hid (Calls Tryz.prog 13 #[.pointer (some ⟨g0, 0, none⟩), .int .i64 n] w8 (StPost w8 O5 (.pointer (some ⟨g0, 0, none⟩)) (SgS room nm fb 0) n)) := start_any HI8.out.fs n (by show (0 : Nat) < _; decide) (.inr (HT.out.below HI8.out.be))
          clear hrs hag hrq hb8 HI5 HRp
          go_wp2_with fail
          refine HSt.out.mono ?_
          rintro e w9 ⟨lgv, O9, rfl, hf9, hg9, ho9, hlg9⟩
          have e80 : stF (SgS room nm fb 0) n = (80, SgS room nm fb 0) := by rw [HNm.out]; exact sg_again HNo.out _ _ _
          rw [e80] at hf9 hlg9 ⊢
          simp only at hf9 hlg9 ⊢
          have hlv : lgv = .pointer none := by
            rcases hlg9 with ⟨_, q⟩ | ⟨q, _⟩
            · exact q
            · cases q
          subst hlv
          have HI9 : Hid (RpI W room (.pointer (some ⟨g0, 0, none⟩)) g nm 0 (.slice ta fb.length tc) fb fb O9 w9) := HI8.out.onl hf9 hg9 ho9
          have HR9 : Hid (RsR w9 (.slice ra R.length rc) R) := HAg.out w9 fun k h1 h2 => ho9.block k h2 (fun z => by have := HLt.out k z; omega)
          clear hf9 hg9 ho9 hlg9 HSt HAg HLt e80 HI8
          go_wp2_with fail
          refine (alive12_any _).mono ?_
          rintro e w10 ⟨rfl, hb10⟩
          have HI10 : Hid (RpI W room (.pointer (some ⟨g0, 0, none⟩)) g nm 0 (.slice ta fb.length tc) fb fb O9 w10) := HI9.out.below hb10
          have HR10 : Hid (RsR w10 (.slice ra R.length rc) R) := HR9.out.below hb10
          clear hb10 HR9 HI9
          go_wp2_with fail
          refine (asAll_any _ R hRl _ HR10.out).mono ?_
          rintro e w11 ⟨av, rfl, hra, hb11⟩
          have HI11 : Hid (RpI W room (.pointer (some ⟨g0, 0, none⟩)) g nm 0 (.slice ta fb.length tc) fb fb O9 w11) := HI10.out.below hb11
          have HRA : Hid (RsR w11 av R) := hra
          clear hb11 HR10 hra HI10
          go_wp2_with fail
          refine (records_any _ fb (by omega) HBd.out _ HI11.out.ow.reads).mono ?_
          rintro e w12 ⟨qv, Q, rfl, hrq, hqq, hb12⟩
          have HI12 : Hid (RpI W room (.pointer (some ⟨g0, 0, none⟩)) g nm 0 (.slice ta fb.length tc) fb fb O9 w12) := HI11.out.below hb12
          have HSm : Hid (Calls Tryz.prog 22 #[av, qv] w12 fun e w' => e = .returned (.bool true) ∧ Below w12.heap.size w12 w') := sameAll_true av qv R Q (HRq.out.trans hqq.symm) w12 (HRA.out.below hb12) hrq
          clear hb12 HRA hrq hqq HI11
          go_wp2_with fail
          refine HSm.out.mono ?_
          rintro e w13 ⟨rfl, hb13⟩
          have HI13 : Hid (RpI W room (.pointer (some ⟨g0, 0, none⟩)) g nm 0 (.slice ta fb.length tc) fb fb O9 w13) := HI12.out.below hb13
          have HSy : Hid (Calls Tryz.prog 25 #[.pointer (some ⟨g, 0, none⟩)] w13 (FsR w13 O9 (.pointer (some ⟨g0, 0, none⟩)) (sfSync (SgS room nm fb 0) nm))) := logSync_any HI13.out.fs HI13.out.lg HI13.out.go HNl.out
          rw [sg_sync] at HSy
          clear hb13 HSm HI12
          go_wp2_with fail
          refine HSy.out.mono ?_
          rintro e w14 ⟨rfl, hf14, ho14⟩
          have HI14 : Hid (RpI W room (.pointer (some ⟨g0, 0, none⟩)) g nm fb.length (.slice ta fb.length tc) fb fb (Grw O9 w13 w14) w14) := HI13.out.onl hf14 (fun k hk => hk) ho14
          go_wp2_with fail
          go_ret
          exact ⟨rfl, HI14.out.be⟩
end Go.Proofs.YtahigmjpeicemaaGreatDoor
