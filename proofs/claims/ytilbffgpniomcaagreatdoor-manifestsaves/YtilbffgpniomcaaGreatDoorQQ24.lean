/- MS5 MS6 MS7 MQ2x, joined. -/
import Derived.Test.YtilbffgpniomcaaGreatDoorQQ22
import Derived.Test.YtilbffgpniomcaaGreatDoorQQ23
/- manifest: Load. -/
namespace Go.Proofs.YtilbffgpniomcaaGreatDoor
open Go.RowKit Go.Shelf

def ldS (r : Option (St × Int) × Int) : St := (r.1.map (·.1)).getD stZ
def ldN (r : Option (St × Int) × Int) : Int := (r.1.map (·.2)).getD 0
def LdP (r : Option (St × Int) × Int) (w : World) (e : Ending) (w' : World) : Prop := ∃ v, e = .returned (.tuple #[.agg #[v, .int .i64 (ldS r).lo, .int .i64 (ldS r).ne, .int .i64 (ldS r).ma], .int .i64 (ldN r), .int .i64 r.2]) ∧ UR w' v (ldS r).ru ∧ Below w.heap.size w w'
set_option maxRecDepth 100000 in
set_option maxHeartbeats 4000000 in
theorem load_any {w : World} {O : Nat → Prop} {p : Value} {s : SfS} (h : Fs w O p s) (hl : ∀ nm, (sfRead s nm).length ≤ 1000000) (hT : Tb w) :
    Calls Tryz.prog 12 #[p] w (LdP (mfLd s) w) := by
  obtain ⟨g0, rfl⟩ := h.ptr
  have HFs : Hid (Fs w O (.pointer (some ⟨g0, 0, none⟩)) s) := h
  have HL : Hid (∀ nm, (sfRead s nm).length ≤ 1000000) := hl
  have HTb : Hid (Tb w) := hT
  obtain ⟨R, HR⟩ := hid_ex (mfLd s)
  rw [← HR.out]
  have HB0 : Hid (Below w.heap.size w (w.alloc (.cells #[.slice none 0 0, .int .i64 0, .int .i64 0, .int .i64 0] 33))) := (Below.refl _ _).alloc (Nat.le_refl _) _
  have HF0 : Hid (Fs (w.alloc (.cells #[.slice none 0 0, .int .i64 0, .int .i64 0, .int .i64 0] 33)) O (.pointer (some ⟨g0, 0, none⟩)) s) := h.below HB0.out
  have hRd := HF0.out.read curN (by decide)
  obtain ⟨E1, HE1⟩ := hid_ex (sfFe (sfLook curN s.dir))
  obtain ⟨b, Hb⟩ := hid_ex (sfRead s curN)
  rw [← HE1.out, ← Hb.out] at hRd
  unfold curN at hRd
  have HRd : Hid (Calls Tryz.prog 23 #[.pointer (some ⟨g0, 0, none⟩), .string ⟨#[99, 117, 114, 114, 101, 110, 116]⟩] (w.alloc (.cells #[.slice none 0 0, .int .i64 0, .int .i64 0, .int .i64 0] 33)) _) := hRd
  clear h hl hT hRd
  go_enter Tryz.func12, Tryz.ntmps12
  go_wp2_with fail
  refine HRd.out.mono ?_
  clear HRd
  rintro e w1 ⟨vb, rfl, hob, hb1⟩
  have HB1 : Hid (Below w.heap.size w w1) := HB0.out.trans (hb1.mono (by simp))
  have hz1 : w.heap.size < w1.heap.size := by have := hb1.size; simp at this; omega
  have HA1 : Hid (w1.heap[w.heap.size]? = some (.cells #[.slice none 0 0, .int .i64 0, .int .i64 0, .int .i64 0] 33)) := (hb1.block _ (by simp)).trans (heap_alloc_new _ _)
  have HRb : Hid (Reads w1 vb b) := hob.reads
  obtain ⟨va, vc, hvb, _⟩ := hob.form
  subst hvb
  obtain ⟨BL, HBL⟩ : ∃ k, Hid (b.length = k) := ⟨_, rfl⟩
  rw [HBL.out] at HRb ⊢
  clear hob hb1 HF0 HB0
  cases hlk : sfLook curN s.dir with
  | none =>
    have hE : E1 = 4 := by rw [HE1.out, hlk]; rfl
    have HQ : Hid (R = (none, 4)) := by unfold Hid; rw [HR.out]; unfold mfLd; rw [hlk]
    subst hE
    clear HE1 hlk
    go_wp2_with (refine stop_store 33 _ _ rfl ?_)
    refine Stop.of ?_
    refine wpList_storeN rfl _ _ _ rfl w.heap.size 0 [.slice none 0 0, .int .i64 0, .int .i64 0, .int .i64 0] rfl rfl _ _ HA1.out (by simp) (by kernel_rfl) (by kernel_rfl) ?_
    intro W9 hW9
    have HK9 := stW_all hW9 (by simp)
    have HB9 : Hid (Below w.heap.size w W9) := HB1.out.trans (hW9.b _ (Nat.le_refl _))
    clear hW9
    go_wp2_with fail
    refine bodyPost_ret (results_c13b rfl _ _ w.heap.size _ rfl (run_loadVar_row _ w.heap.size _ _ _ (0, 0) _ HK9 Tryz.underlying33 rfl (by kernel_rfl))) rfl ?_
    exact ⟨_, by rw [HQ.out]; rfl, by rw [HQ.out]; exact ur_nil _, HB9.out⟩
  | some i0 =>
    have hE : E1 = 0 := by rw [HE1.out, hlk]; rfl
    have HQ0 : Hid (R = match ptF b with
      | none => (none, 114)
      | some n => match rpS (sfRead s (nmF man n)) with
        | none => (none, 114)
        | some st => (some (st, n), 0)) := by unfold Hid; rw [HR.out, Hb.out]; unfold mfLd; rw [hlk]; rfl
    subst hE
    clear HE1 hlk HR
    have HPt : Hid (Calls Tryz.prog 37 #[.slice va BL vc] w1 _) := pointed_any _ b w1 HRb.out
    go_wp2_with fail
    refine HPt.out.mono ?_
    clear HPt
    rintro e w2 ⟨n, ok, rfl, hok, hn, hb2⟩
    have HB2 : Hid (Below w.heap.size w w2) := HB1.out.trans (hb2.mono HB1.out.size)
    have hz2 : w.heap.size < w2.heap.size := by have := hb2.size; omega
    have HA2 : Hid (w2.heap[w.heap.size]? = some (.cells #[.slice none 0 0, .int .i64 0, .int .i64 0, .int .i64 0] 33)) := (hb2.block _ hz1).trans HA1.out
    clear hb2 HA1 HB1 HRb
    cases hpt : ptF b with
    | none =>
      rw [hpt] at hok
      have hok' : ok = false := hok
      subst hok'
      have HQ : Hid (R = (none, 114)) := by unfold Hid; rw [HQ0.out, hpt]
      clear hpt HQ0 hn hok
      go_wp2_with (refine stop_store 33 _ _ rfl ?_)
      refine Stop.of ?_
      refine wpList_storeN rfl _ _ _ rfl w.heap.size 0 [.slice none 0 0, .int .i64 0, .int .i64 0, .int .i64 0] rfl rfl _ _ HA2.out (by simp) (by kernel_rfl) (by kernel_rfl) ?_
      intro W9 hW9
      have HK9 := stW_all hW9 (by simp)
      have HB9 : Hid (Below w.heap.size w W9) := HB2.out.trans (hW9.b _ (Nat.le_refl _))
      clear hW9
      go_wp2_with fail
      refine bodyPost_ret (results_c13b rfl _ _ w.heap.size _ rfl (run_loadVar_row _ w.heap.size _ _ _ (0, 0) _ HK9 Tryz.underlying33 rfl (by kernel_rfl))) rfl ?_
      exact ⟨_, by rw [HQ.out]; rfl, by rw [HQ.out]; exact ur_nil _, HB9.out⟩
    | some m =>
      rw [hpt] at hok
      have hok' : ok = true := hok
      subst hok'
      have hnm : n = m := hn m hpt
      subst hnm
      have HQ1 : Hid (R = match rpS (sfRead s (nmF man n)) with
        | none => (none, 114)
        | some st => (some (st, n), 0)) := by unfold Hid; rw [HQ0.out, hpt]
      clear hpt HQ0 hn hok
      have HNm : Hid (Calls Tryz.prog 38 #[.string ⟨man.toArray⟩, .int .i64 n] w2 _) := name_any man (by decide) n w2 (.inr (HTb.out.below HB2.out))
      unfold man at HNm
      have HNl : Hid ((nmF man n).length ≤ maxLen) := by have := man_len (n := n); unfold Hid maxLen; omega
      obtain ⟨NM, HNM⟩ := hid_ex (nmF man n)
      have e0 : nmF [109, 97, 110, 45] n = NM := HNM.out.symm
      rw [e0] at HNm
      rw [← HNM.out] at HQ1 HNl
      clear e0 HNM
      go_wp2_with fail
      refine HNm.out.mono ?_
      clear HNm
      rintro e w3 ⟨rfl, hb3⟩
      have HB3 : Hid (Below w.heap.size w w3) := HB2.out.trans (hb3.mono HB2.out.size)
      have hz3 : w.heap.size < w3.heap.size := by have := hb3.size; omega
      have HA3 : Hid (w3.heap[w.heap.size]? = some (.cells #[.slice none 0 0, .int .i64 0, .int .i64 0, .int .i64 0] 33)) := (hb3.block _ hz2).trans HA2.out
      have hRd := (HFs.out.below HB3.out).read NM HNl.out
      obtain ⟨E4, HE4⟩ := hid_ex (sfFe (sfLook NM s.dir))
      obtain ⟨l, Hl⟩ := hid_ex (sfRead s NM)
      have Hll : Hid (l.length ≤ 1000000) := by unfold Hid; rw [Hl.out]; exact HL.out NM
      rw [← HE4.out, ← Hl.out] at hRd
      rw [← Hl.out] at HQ1
      have HRd : Hid (Calls Tryz.prog 23 #[.pointer (some ⟨g0, 0, none⟩), .string ⟨NM.toArray⟩] w3 _) := hRd
      clear hRd hb3 HE4 HA2
      go_wp2_with fail
      refine HRd.out.mono ?_
      clear HRd
      rintro e w4 ⟨vl, rfl, hol, hb4⟩
      have HB4 : Hid (Below w.heap.size w w4) := HB3.out.trans (hb4.mono HB3.out.size)
      have hz4 : w.heap.size < w4.heap.size := by have := hb4.size; omega
      have HA4 : Hid (w4.heap[w.heap.size]? = some (.cells #[.slice none 0 0, .int .i64 0, .int .i64 0, .int .i64 0] 33)) := (hb4.block _ hz3).trans HA3.out
      obtain ⟨la, lc, hvl, _⟩ := hol.form
      subst hvl
      have hRp := replayed_any _ l Hll.out w4 hol.reads
      obtain ⟨LL, HLL⟩ : ∃ k, Hid (l.length = k) := ⟨_, rfl⟩
      rw [HLL.out] at hRp ⊢
      obtain ⟨Q, HQe⟩ := hid_ex (rpF (fmS l) st0 false)
      rw [← HQe.out] at hRp
      have HRp : Hid (Calls Tryz.prog 39 #[.slice la LL lc] w4 (RpP Q w4)) := hRp
      have HQ2 : Hid (R = if Q.2 = true then (some (Q.1, n), 0) else (none, 114)) := by
        unfold Hid
        rw [HQ1.out]
        unfold rpS
        rw [← HQe.out]
        cases Q.2 <;> rfl
      clear hRp hol hb4 HA3 HQ1
      go_wp2_with fail
      refine HRp.out.mono ?_
      clear HRp
      rintro e w5 ⟨v5, rfl, hu5, hb5, hn5⟩
      obtain ⟨a5, c5, hv5, _⟩ := hu5.r.form
      subst hv5
      obtain ⟨T, mk⟩ := Q
      simp only at hu5 hn5 HQ2 ⊢
      obtain ⟨L5, HL5⟩ : ∃ k, Hid (T.ru.length = k) := ⟨_, rfl⟩
      rw [HL5.out] at hu5 hn5 ⊢
      have HOn5 : Hid (([.slice a5 L5 c5, .int .i64 T.lo, .int .i64 T.ne, .int .i64 T.ma] : List Value).toArray.all (·.oneCell') = true) := by unfold Hid; kernel_rfl
      have HU5 : Hid (UR w5 (.slice a5 L5 c5) T.ru) := hu5
      have HN5 : Hid (notP w.heap.size (.slice a5 L5 c5) T.ru) := hn5 w.heap.size hz4
      have HB5 : Hid (Below w.heap.size w w5) := HB4.out.trans (hb5.mono HB4.out.size)
      have hz5 : w.heap.size < w5.heap.size := by have := hb5.size; omega
      have HA5 : Hid (w5.heap[w.heap.size]? = some (.cells #[.slice none 0 0, .int .i64 0, .int .i64 0, .int .i64 0] 33)) := (hb5.block _ hz4).trans HA4.out
      clear hu5 hn5 hb5 HA4
      go_wp2_with (refine stop_store 33 _ _ rfl ?_)
      refine Stop.of ?_
      refine wpList_storeN rfl _ _ _ rfl w5.heap.size 0 [.slice a5 L5 c5, .int .i64 T.lo, .int .i64 T.ne, .int .i64 T.ma] rfl rfl _ _ (heap_alloc_new _ _) (by simp) (by kernel_rfl) HOn5.out ?_
      intro w6 hw6
      obtain ⟨hb6, hx6, hz6⟩ := stW_nw hw6 (by simp)
      have HB6 : Hid (Below w.heap.size w w6) := HB5.out.trans (hb6.mono HB5.out.size)
      have HA6 : Hid (w6.heap[w.heap.size]? = some (.cells #[.slice none 0 0, .int .i64 0, .int .i64 0, .int .i64 0] 33)) := (hb6.block _ hz5).trans HA5.out
      have HX6 : Hid (w6.heap[w5.heap.size]? = some (.cells #[.slice a5 L5 c5, .int .i64 T.lo, .int .i64 T.ne, .int .i64 T.ma] 33)) := hx6
      have HU6 : Hid (UR w6 (.slice a5 L5 c5) T.ru) := HU5.out.below hb6
      clear hw6 hb6 hx6 HU5 HA5
      cases mk with
      | false =>
        have HQ : Hid (R = (none, 114)) := by unfold Hid; rw [HQ2.out]; rfl
        go_wp2_with (refine stop_store 33 _ _ rfl ?_)
        refine Stop.of ?_
        refine wpList_storeN rfl _ _ _ rfl w.heap.size 0 [.slice none 0 0, .int .i64 0, .int .i64 0, .int .i64 0] rfl rfl _ _ HA6.out (by simp) (by kernel_rfl) (by kernel_rfl) ?_
        intro W9 hW9
        have HK9 := stW_all hW9 (by simp)
        have HB9 : Hid (Below w.heap.size w W9) := HB6.out.trans (hW9.b _ (Nat.le_refl _))
        clear hW9
        go_wp2_with fail
        refine bodyPost_ret (results_c13b rfl _ _ w.heap.size _ rfl (run_loadVar_row _ w.heap.size _ _ _ (0, 0) _ HK9 Tryz.underlying33 rfl (by kernel_rfl))) rfl ?_
        exact ⟨_, by rw [HQ.out]; rfl, by rw [HQ.out]; exact ur_nil _, HB9.out⟩
      | true =>
        have HQ : Hid (R = (some (T, n), 0)) := by unfold Hid; rw [HQ2.out]; rfl
        obtain ⟨p0, p1, p2, p3⟩ := four13 HX6.out
        go_wp2_with (refine stop_store 33 _ _ rfl ?_)
        refine Stop.of ?_
        refine wpList_storeN rfl _ _ _ rfl w.heap.size 0 [.slice a5 L5 c5, .int .i64 T.lo, .int .i64 T.ne, .int .i64 T.ma] rfl rfl _ _ HA6.out (by simp) (by kernel_rfl) HOn5.out ?_
        intro W9 hW9
        have HK9 := stW_all hW9 (by simp)
        have HB9 : Hid (Below w.heap.size w W9) := HB6.out.trans (hW9.b _ (Nat.le_refl _))
        have HU9 : Hid (UR W9 (.slice a5 L5 c5) T.ru) := ⟨HU6.out.r.keepC fun h0 b off n c e => hW9.o b (HN5.out h0 b off n c e), HU6.out.c, HU6.out.z⟩
        clear hW9 p0 p1 p2 p3
        go_wp2_with fail
        refine bodyPost_ret (results_c13b rfl _ _ w.heap.size _ rfl (run_loadVar_row _ w.heap.size _ _ _ (0, 0) _ HK9 Tryz.underlying33 rfl (by kernel_rfl))) rfl ?_
        exact ⟨_, by rw [HQ.out]; rfl, by rw [HQ.out]; exact HU9.out, HB9.out⟩
end Go.Proofs.YtilbffgpniomcaaGreatDoor

/- A file system that was made since a world W, and the calls of it. -/
namespace Go.Proofs.YtilbffgpniomcaaGreatDoor
open Go.RowKit Go.Shelf

def FsW (W w : World) (p : Value) (s : SfS) : Prop := ∃ O, Fs w O p s ∧ Below W.heap.size W w ∧ ∀ k, O k → W.heap.size ≤ k
def FwR (W : World) (p : Value) (r : Int × SfS) (e : Ending) (w' : World) : Prop := e = .returned (.int .i64 r.1) ∧ FsW W w' p r.2
theorem FsW.b {W w : World} {p : Value} {s : SfS} (h : FsW W w p s) : Below W.heap.size W w := by obtain ⟨_, _, h, _⟩ := h; exact h
theorem FsW.ptr {W w : World} {p : Value} {s : SfS} (h : FsW W w p s) : ∃ g, p = .pointer (some ⟨g, 0, none⟩) := by obtain ⟨_, h, _, _⟩ := h; exact h.ptr
theorem FsW.wf {W w : World} {p : Value} {s : SfS} (h : FsW W w p s) : SfWf s := by obtain ⟨_, h, _, _⟩ := h; exact h.1
theorem FsW.below {W w w' : World} {p : Value} {s : SfS} (h : FsW W w p s) (hb : Below w.heap.size w w') : FsW W w' p s := by
  obtain ⟨O, h1, h2, h3⟩ := h
  exact ⟨O, h1.below hb, h2.trans (hb.mono h2.size), h3⟩
theorem fsW_on {W w w' : World} {O : Nat → Prop} (h2 : Below W.heap.size W w) (h3 : ∀ k, O k → W.heap.size ≤ k) (ho : Onl O w w') : Below W.heap.size W w' := h2.trans (ho.below h2.size h3)
theorem fsW_grw {W w w' : World} {O : Nat → Prop} (h2 : Below W.heap.size W w) (h3 : ∀ k, O k → W.heap.size ≤ k) : ∀ k, Grw O w w' k → W.heap.size ≤ k := fun k hk => by
  rcases hk with hk | hk
  · exact h3 k hk
  · exact Nat.le_trans h2.size hk.1
theorem fsW_r {W w w' : World} {O : Nat → Prop} {p : Value} {r : Int × SfS} {e : Ending} (h2 : Below W.heap.size W w) (h3 : ∀ k, O k → W.heap.size ≤ k) (h : FsR w O p r e w') : FwR W p r e w' := by
  obtain ⟨g1, g2, g3⟩ := h
  exact ⟨g1, _, g2, fsW_on h2 h3 g3, fsW_grw h2 h3⟩
theorem fsW_ad {W w w' : World} {O : Nat → Prop} {p : Value} {r : Int × SfS} {e : Ending} (h2 : Below W.heap.size W w) (h3 : ∀ k, O k → W.heap.size ≤ k) (h : AdPost w O p r e w') : FwR W p r e w' := by
  obtain ⟨O', g1, g2, g3⟩ := h
  exact ⟨g1, O', g2, fsW_on h2 h3 g3.o, fun k hk => fsW_grw h2 h3 k (g3.g k hk)⟩
theorem fsW_new (r : Int) (W w : World) (hW : Below W.heap.size W w) (h : 1 ≤ r) (h2 : r < 9223372036854775808) : Calls Tryz.prog 8 #[.int .i64 r] w fun e w' => ∃ p, e = .returned (.tuple #[p, .int .i64 0]) ∧ FsW W w' p (sfZ r) := by
  refine (fs_new r w h h2).mono ?_
  rintro e w' ⟨p, he, hf, hb⟩
  exact ⟨p, he, _, hf, hW.trans (hb.mono hW.size), fun k hk => Nat.le_trans hW.size hk.1⟩
theorem FsW.create {W w : World} {p : Value} {s : SfS} (h : FsW W w p s) (n : List UInt8) (hn : n.length ≤ maxLen) (hpn : s.pend.length < 1099511627776) : Calls Tryz.prog 9 #[p, .string ⟨n.toArray⟩] w (FwR W p (sfCreate s n)) := by
  obtain ⟨O, h1, h2, h3⟩ := h
  exact (h1.create n hn hpn).mono fun _ _ g => fsW_r h2 h3 g
theorem FsW.append {W w : World} {p : Value} {s : SfS} (h : FsW W w p s) (n : List UInt8) (hn : n.length ≤ maxLen) (bv : Value) (b : List UInt8) (hR : Reads W bv b) : Calls Tryz.prog 10 #[p, .string ⟨n.toArray⟩, bv] w (FwR W p (sfAppend s n b)) := by
  obtain ⟨O, h1, h2, h3⟩ := h
  exact (h1.append n hn bv b fun w' ho => hR.below (fsW_on h2 h3 ho)).mono fun _ _ g => fsW_r h2 h3 g
theorem FsW.fail {W w : World} {p : Value} {s : SfS} (h : FsW W w p s) (n e : Int) (hl : n < 9223372036854775808) : Calls Tryz.prog 26 #[p, .int .i64 n, .int .i64 e] w (FwR W p (sfFail s n e)) := by
  obtain ⟨O, h1, h2, h3⟩ := h
  exact (h1.fail n e hl).mono fun _ _ g => fsW_r h2 h3 g
theorem FsW.save {W w : World} {p : Value} {s : SfS} (h : FsW W w p s) (n : Int) (rv : Value) (st : St) (hU : UR W rv st.ru) (hpn : s.pend.length < 1000000) (hT : Tb W) :
    Calls Tryz.prog 17 #[p, .int .i64 n, .agg #[rv, .int .i64 st.lo, .int .i64 st.ne, .int .i64 st.ma]] w (FwR W p (mfSave s n st)) := by
  obtain ⟨O, h1, h2, h3⟩ := h
  exact (save_any h1 n rv st (hU.below h2) hpn (.inr (hT.below h2))).mono fun _ _ g => fsW_ad h2 h3 g
theorem FsW.app {W w : World} {p : Value} {s : SfS} (h : FsW W w p s) (n : Int) (dv av : Value) (x : Ed) (hE : EdR w dv av x) (hx : smI x) (hT : Tb W) :
    Calls Tryz.prog 22 #[p, .int .i64 n, .agg #[dv, av, .int .i64 x.lo, .int .i64 x.ne, .int .i64 x.ma]] w (FwR W p (mfApp s n x)) := by
  obtain ⟨O, h1, h2, h3⟩ := h
  exact (mappend_any h1 n dv av x hE hx (.inr (hT.below h2))).mono fun _ _ g => fsW_ad h2 h3 g
theorem FsW.load {W w : World} {p : Value} {s : SfS} (h : FsW W w p s) (hl : ∀ nm, (sfRead s nm).length ≤ 1000000) (hT : Tb W) : Calls Tryz.prog 12 #[p] w (LdP (mfLd s) w) := by
  obtain ⟨O, h1, h2, _⟩ := h
  exact load_any h1 hl (hT.below h2)
theorem FsW.crash {W w : World} {p : Value} {s : SfS} (h : FsW W w p s) (n : Int) (kv : Value) (ks : List Int) (hK : KReads W kv ks) : Calls Tryz.prog 27 #[p, .int .i64 n, kv] w (FwR W p (0, sfCrash s n ks)) := by
  obtain ⟨O, h1, h2, h3⟩ := h
  exact (h1.crash n kv ks fun w' ho => hK.keepB (fun k _ hl => (fsW_on h2 h3 ho).block k hl) (fsW_on h2 h3 ho).size).mono fun _ _ g => fsW_r h2 h3 g
theorem FsW.list {W w : World} {p : Value} {s : SfS} (h : FsW W w p s) : Calls Tryz.prog 19 #[p] w fun e w' => ∃ a c, e = .returned (.slice a s.dir.length c) ∧ s.dir.length ≤ maxLen ∧ Below w.heap.size w w' := by
  obtain ⟨O, h1, _, _⟩ := h
  refine h1.list.mono ?_
  rintro e w' ⟨v, he, hr, hb⟩
  obtain ⟨a, c, hv⟩ := row_formS hr
  exact ⟨a, c, by rw [he, hv], by have := h1.1.ln s.pend.length; rw [List.take_length, ← h1.1.ap] at this; unfold maxLen; omega, hb⟩
theorem FsW.read {W w : World} {p : Value} {s : SfS} (h : FsW W w p s) (n : List UInt8) (hn : n.length ≤ maxLen) : Calls Tryz.prog 23 #[p, .string ⟨n.toArray⟩] w fun e w' => ∃ v, e = .returned (.tuple #[v, .int .i64 (sfFe (sfLook n s.dir))]) ∧ Own w' w.heap.size v (sfRead s n) ∧ Below w.heap.size w w' := by
  obtain ⟨O, h1, _, _⟩ := h
  exact h1.read n hn
end Go.Proofs.YtilbffgpniomcaaGreatDoor

/- A file system, and what stands beside it since a world. -/
namespace Go.Proofs.YtilbffgpniomcaaGreatDoor
open Go.RowKit Go.Shelf

/-- A file system that was made since W; since w0 nothing has turned but its blocks O0, and what is new. -/
def FsT (W w0 : World) (O0 : Nat → Prop) (w : World) (p : Value) (s : SfS) : Prop := ∃ O, Fs w O p s ∧ To w0 O0 w O ∧ Below W.heap.size W w ∧ ∀ k, O k → W.heap.size ≤ k
def FtR (W w0 : World) (O0 : Nat → Prop) (p : Value) (r : Int × SfS) (e : Ending) (w' : World) : Prop := e = .returned (.int .i64 r.1) ∧ FsT W w0 O0 w' p r.2
theorem FsT.b {W w0 w : World} {O0 : Nat → Prop} {p : Value} {s : SfS} (h : FsT W w0 O0 w p s) : Below W.heap.size W w := by obtain ⟨_, _, _, h, _⟩ := h; exact h
theorem FsT.o {W w0 w : World} {O0 : Nat → Prop} {p : Value} {s : SfS} (h : FsT W w0 O0 w p s) : Onl O0 w0 w := by obtain ⟨_, _, h, _, _⟩ := h; exact h.o
theorem FsT.w {W w0 w : World} {O0 : Nat → Prop} {p : Value} {s : SfS} (h : FsT W w0 O0 w p s) : FsW W w p s := by obtain ⟨O, h1, _, h2, h3⟩ := h; exact ⟨O, h1, h2, h3⟩
theorem FsW.t {W w : World} {p : Value} {s : SfS} (h : FsW W w p s) : ∃ O, FsT W w O w p s ∧ ∀ k, O k → W.heap.size ≤ k ∧ k < w.heap.size := by
  obtain ⟨O, h1, h2, h3⟩ := h
  exact ⟨O, ⟨O, h1, To.refl _ _, h2, h3⟩, fun k hk => ⟨h3 k hk, h1.lt k hk⟩⟩
/-- From a later world on. -/
theorem FsT.on {W w0 w : World} {O0 : Nat → Prop} {p : Value} {s : SfS} (h : FsT W w0 O0 w p s) : ∃ O, FsT W w O w p s ∧ ∀ k, O k → W.heap.size ≤ k ∧ k < w.heap.size := h.w.t
theorem FsT.below {W w0 w w' : World} {O0 : Nat → Prop} {p : Value} {s : SfS} (h : FsT W w0 O0 w p s) (hb : Below w.heap.size w w') : FsT W w0 O0 w' p s := by
  obtain ⟨O, h1, ht, h2, h3⟩ := h
  exact ⟨O, h1.below hb, ht.then hb, h2.trans (hb.mono h2.size), h3⟩
/-- .. the same, with the new memory as what stands beside it. -/
theorem FsT.since {W w w' : World} {O0 : Nat → Prop} {p : Value} {s : SfS} (h : FsT W w O0 w p s) (hb : Below w.heap.size w w') : FsT W w' O0 w' p s := by
  obtain ⟨O, h1, ht, h2, h3⟩ := h
  refine ⟨O, h1.below hb, ⟨fun k hk => ?_, Onl.refl _ _⟩, h2.trans (hb.mono h2.size), h3⟩
  rcases ht.g k hk with q | q
  · exact .inl q
  · omega
theorem fsT_ad {W w0 w w' : World} {O0 O : Nat → Prop} {p : Value} {r : Int × SfS} {e : Ending} (ht : To w0 O0 w O) (h2 : Below W.heap.size W w) (h3 : ∀ k, O k → W.heap.size ≤ k) (h : AdPost w O p r e w') : FtR W w0 O0 p r e w' := by
  obtain ⟨O', g1, g2, g3⟩ := h
  exact ⟨g1, O', g2, ht.trans g3, fsW_on h2 h3 g3.o, fun k hk => fsW_grw h2 h3 k (g3.g k hk)⟩
theorem ad_of {w w' : World} {O : Nat → Prop} {p : Value} {r : Int × SfS} {e : Ending} (h : FsR w O p r e w') : AdPost w O p r e w' := by
  obtain ⟨g1, g2, g3⟩ := h
  exact ⟨_, g1, g2, ⟨fun _ h => h, g3⟩⟩
theorem FsT.fail {W w0 w : World} {O0 : Nat → Prop} {p : Value} {s : SfS} (h : FsT W w0 O0 w p s) (n e : Int) (hl : n < 9223372036854775808) : Calls Tryz.prog 26 #[p, .int .i64 n, .int .i64 e] w (FtR W w0 O0 p (sfFail s n e)) := by
  obtain ⟨O, h1, ht, h2, h3⟩ := h
  exact (h1.fail n e hl).mono fun _ _ g => fsT_ad ht h2 h3 (ad_of g)
theorem FsT.save {W w0 w : World} {O0 : Nat → Prop} {p : Value} {s : SfS} (h : FsT W w0 O0 w p s) (n : Int) (rv : Value) (st : St) (hU : UR W rv st.ru) (hpn : s.pend.length < 1000000) (hT : Tb W) :
    Calls Tryz.prog 17 #[p, .int .i64 n, .agg #[rv, .int .i64 st.lo, .int .i64 st.ne, .int .i64 st.ma]] w (FtR W w0 O0 p (mfSave s n st)) := by
  obtain ⟨O, h1, ht, h2, h3⟩ := h
  exact (save_any h1 n rv st (hU.below h2) hpn (.inr (hT.below h2))).mono fun _ _ g => fsT_ad ht h2 h3 g
theorem FsT.app {W w0 w : World} {O0 : Nat → Prop} {p : Value} {s : SfS} (h : FsT W w0 O0 w p s) (n : Int) (dv av : Value) (x : Ed) (hE : EdR W dv av x) (hx : smI x) (hT : Tb W) :
    Calls Tryz.prog 22 #[p, .int .i64 n, .agg #[dv, av, .int .i64 x.lo, .int .i64 x.ne, .int .i64 x.ma]] w (FtR W w0 O0 p (mfApp s n x)) := by
  obtain ⟨O, h1, ht, h2, h3⟩ := h
  exact (mappend_any h1 n dv av x (hE.below h2) hx (.inr (hT.below h2))).mono fun _ _ g => fsT_ad ht h2 h3 g
theorem FsT.crash {W w0 w : World} {O0 : Nat → Prop} {p : Value} {s : SfS} (h : FsT W w0 O0 w p s) (n : Int) (kv : Value) (ks : List Int) (hK : KReads W kv ks) : Calls Tryz.prog 27 #[p, .int .i64 n, kv] w (FtR W w0 O0 p (0, sfCrash s n ks)) := by
  obtain ⟨O, h1, ht, h2, h3⟩ := h
  exact (h1.crash n kv ks fun w' ho => hK.keepB (fun k _ hl => (fsW_on h2 h3 ho).block k hl) (fsW_on h2 h3 ho).size).mono fun _ _ g => fsT_ad ht h2 h3 (ad_of g)
/-- A row that no block of O0 has. -/
theorem UR.onl {w w' : World} {O0 : Nat → Prop} {v : Value} {L : List Ru} (h : UR w v L) (ho : Onl O0 w w') (hn : ∀ Q, O0 Q → notP Q v L) : UR w' v L :=
  ⟨h.r.keepC fun h0 b off n c e => by
    subst e
    obtain ⟨b', off', e', hb', _⟩ := h.r.at h0 rfl
    simp only [Option.some.injEq, Addr.mk.injEq] at e'
    exact ho.block b (by omega) (fun z => hn b z h0 b off n c rfl rfl), h.c, h.z⟩
/-- A row of before W is in no block since. -/
theorem notP_old {W : World} {v : Value} {L : List Ru} (h : RuR W v L) {Q : Nat} (hQ : W.heap.size ≤ Q) : notP Q v L := notP_low h hQ
end Go.Proofs.YtilbffgpniomcaaGreatDoor

/- ManifestSaves, plainly; a file system beside which other memory turns. -/
namespace Go.Proofs.YtilbffgpniomcaaGreatDoor
open Go.RowKit Go.Shelf

/-- A state and edits behind it, saved. -/
def SVd (n : Int) (ds : List (List UInt8)) : SfS := SV 1048576 (nmF man n) (cat ds) (frm (sh n.toNat)) (cat ds).length
theorem svd_save {n : Int} {s : St} (hs : okSt s) (hn : isNo n = true) : mfSave (sfZ 1048576) n s = (0, SVd n [stB s]) := by
  rw [save_zero (by decide) hs hn]
  have : frm (stB s) = cat [stB s] := by simp [cat]
  unfold SVd
  rw [← this]
theorem svd_again {n : Int} {s : St} (hs : okSt s) (hn : isNo n = true) (ds : List (List UInt8)) : mfSave (SVd n ds) n s = (80, SVd n ds) := sv_again hn _ _ _ hs
theorem svd_app {n : Int} (hn : isNo n = true) {ds : List (List UInt8)} {x : Ed} {b : List UInt8} (hb : edW x = some b) (h : (cat ds).length + (frm b).length ≤ 100000) : mfApp (SVd n ds) n x = (0, SVd n (ds ++ [b])) := by
  have hp := ptB_len hn
  unfold mfApp
  rw [hb]
  show mfExt (SVd n ds) (nmF man n) b = _
  unfold SVd
  rw [sv_ext (cur_ne hn) _ _ _ _ (by omega) (by omega)]
  have : cat (ds ++ [b]) = cat ds ++ frm b := by rw [cat_append]; simp [cat]
  rw [this]
structure Dw (ds : List (List UInt8)) (t : St) (j : Nat) : Prop where
  rp : RpA ds t
  le : ∀ d ∈ ds, d.length ≤ 65535
  ln : (cat ds).length ≤ 2100 + 2708 * j
theorem dw_one {s : St} (hs : okSt s) : Dw [stB s] s 0 := ⟨rpa_one hs, fun d hd => by simp only [List.mem_singleton] at hd; rw [hd]; exact stB_le hs, by have := stB_len hs; simpa [cat] using this⟩
theorem Dw.on {ds : List (List UInt8)} {t : St} {j k : Nat} (h : Dw ds t j) (hk : j ≤ k) : Dw ds t k := ⟨h.rp, h.le, by have := h.ln; omega⟩
theorem Dw.app {ds : List (List UInt8)} {t u : St} {j : Nat} {x : Ed} (h : Dw ds t j) (ha : apS t x = (some u, 0)) : ∃ b, edW x = some b ∧ (frm b).length ≤ 2708 ∧ Dw (ds ++ [b]) u (j + 1) := by
  obtain ⟨b, h1, h2, h3⟩ := apS_edW ha
  have h4 : (frm b).length ≤ 2708 := by rw [frm_len]; omega
  refine ⟨b, h1, h4, h.rp.app h2 (by rw [ha]), fun d hd => ?_, ?_⟩
  · rcases List.mem_append.1 hd with hd | hd
    · exact h.le d hd
    · simp only [List.mem_singleton] at hd; rw [hd]; omega
  · have : cat (ds ++ [b]) = cat ds ++ frm b := by rw [cat_append]; simp [cat]
    rw [this, List.length_append]
    have := h.ln
    omega
theorem Dw.load {ds : List (List UInt8)} {t : St} {j : Nat} (h : Dw ds t j) {n : Int} (hn : isNo n = true) : mfLd (SVd n ds) = (some (t, n), 0) := sv_load hn _ _ (h.rp.rpS (fm_cat h.le))
theorem svd_len {n : Int} (hn : isNo n = true) {ds : List (List UInt8)} (h : (cat ds).length ≤ 100000) (nm : List UInt8) : (sfRead (SVd n ds) nm).length ≤ 1000000 := svf_len (l := 0) (f := 0) h (by have := ptB_len hn; omega) nm
theorem svd_read (n : Int) (ds : List (List UInt8)) : sfRead (SVd n ds) curN = frm (sh n.toNat) ∧ sfFe (sfLook curN (SVd n ds).dir) = 0 := ⟨sv_rdc _ _ _ _ _, by unfold SVd; rw [sv_cur]; rfl⟩
/-- From the world in which a call ended. -/
theorem FsT.next {W w0 w : World} {O : Nat → Prop} {p : Value} {s : SfS} (h : FsT W w0 O w p s) : ∃ O', FsT W w O' w p s ∧ (∀ k, O' k → W.heap.size ≤ k ∧ k < w.heap.size) ∧ ∀ k, O' k → O k ∨ w0.heap.size ≤ k := by
  obtain ⟨O', h1, ht, h2, h3⟩ := h
  refine ⟨O', ⟨O', h1, To.refl _ _, h2, h3⟩, fun k hk => ⟨h3 k hk, h1.lt k hk⟩, fun k hk => ?_⟩
  rcases ht.g k hk with q | q
  · exact .inl q
  · exact .inr q.1
/-- A block that is none of its turns. -/
theorem FsT.put {W w w' : World} {O : Nat → Prop} {p : Value} {s : SfS} {P : Nat} {cur : Array Value} {T : TypeId} {vs : List Value} (h : FsT W w O w p s) (hs : StW w w' P 0 cur T vs) (hP : ¬ O P) (hW : W.heap.size ≤ P) : FsT W w' O w' p s := by
  obtain ⟨O', h1, ht, h2, h3⟩ := h
  have hb : Below P w w' := hs.b P (Nat.le_refl _)
  have hO : ∀ k, O' k → O k := fun k hk => by
    rcases ht.g k hk with q | q
    · exact q
    · omega
  refine ⟨O', h1.keep (fun k hk => hs.o k (fun e => hP (by rw [← e]; exact hO k hk))) hb.size, ⟨fun k hk => .inl (hO k hk), Onl.refl _ _⟩, h2.trans (hs.b _ hW), h3⟩
theorem notP_next {w : World} {O O' : Nat → Prop} {v : Value} {L : List Ru} (hr : RuR w v L) (h : ∀ Q, O Q → notP Q v L) (hO : ∀ k, O' k → O k ∨ w.heap.size ≤ k) : ∀ Q, O' Q → notP Q v L := fun Q hQ => by
  rcases hO Q hQ with q | q
  · exact h Q q
  · exact notP_low hr q
end Go.Proofs.YtilbffgpniomcaaGreatDoor
