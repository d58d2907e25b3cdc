/- SV7 SVT SO1 SV8h, joined. -/
import Derived.Test.YtoibmjmajbkbcaaSG8
import Derived.Test.YtoibmjmajbkbcaaSG20
import Derived.BigRegion
import Derived.Laws.BitsAllLaws
import Derived.Deep.CutBlock
import Derived.Deep.CutRange
import Derived.Deep.DeepCutAuto
/- The reference's Seek (layer 8). -/
namespace Go.Proofs.Ytoibmjmajbkbcaa
open Go.RowKit

theorem ERc.rd {w : World} {v : Value} {xs : List Ev} (h : ERc w v xs) (hr : EvR w xs) : ERd w v (xs.map evE) := by
  obtain ⟨a, cap, rfl, h1, h2, h3⟩ := h
  refine ⟨a, cap, by simp, by simpa using h1, h2, ?_⟩
  rcases h3 with rfl | ⟨b, off, h4, h5, h6⟩
  · exact .inl rfl
  · refine .inr ⟨b, off, h4, h5, fun j hj => ?_⟩
    simp at hj
    have e : (xs.map evE)[j]'(by simpa using hj) = evE xs[j] := by simp
    rw [e]
    refine ⟨xs[j].kv, fun i hi => ?_, hr _ (List.getElem_mem hj)⟩
    rw [show off + j * 7 + i = off + (7 * j + i) by omega]
    exact h6 j hj i hi
theorem take_step {α : Type} {L : List α} {n j : Nat} (h : n + j < L.length) : (L.drop n).take (j + 1) = (L.drop n).take j ++ [L[n + j]] := by
  rw [List.take_succ_eq_append_getElem (by rw [List.length_drop]; omega)]
  simp
set_option maxRecDepth 100000 in
set_option maxHeartbeats 4000000 in
theorem refSeek8 (Y : Nat) (E : List En) (f : Bool) (kv : Value) (key : Ks) (most : Int) (w : World) (v : Value) (xs : List Ev) (base : Nat) (hY : w.heap[Y]? = some (.cells #[v, .bool f] 28)) (hO : EOwn w base v xs) (hxe : xs.map evE = E) (hE : srt E) (hlen : E.length ≤ 5000) (hR : Reads w kv key) :
    Calls Try.prog 11 #[.pointer (some ⟨Y, 0, none⟩), kv, .int .i64 most] w fun e w' => ∃ v' ys, e = .returned v' ∧ OwnE w' w.heap.size v' ys ∧ EvR w' ys ∧ ys.map evE = skF E key most ∧ Below w.heap.size w w' := by
  have HR : Hid (Reads w kv key) := hR
  have HO : Hid (EOwn w base v xs) := hO
  have HHY : Hid (w.heap[Y]? = some (.cells #[v, .bool f] 28)) := hY
  have hYl := (Array.getElem?_eq_some_iff.1 hY).1
  have HERD : Hid (ERd w v E) := by have h1 := hO.rd; rw [hxe] at h1; exact h1
  have HXE : Hid (xs.map evE = E) := hxe
  have hxl : xs.length ≤ 5000 := by rw [← hxe, List.length_map] at hlen; exact hlen
  have HSK : Hid (∀ n, plK (keysE E) key = n → ((xs.drop n).take most.toNat).map evE = skF E key most) := by
    rintro n rfl
    unfold skF
    rw [List.map_take, List.map_drop, HXE.out]
  obtain ⟨va, vc, rfl, hvc1, hvc2⟩ := hO.row.rc.form
  obtain ⟨ak, ck, rfl, hmk⟩ := hR.form
  unfold maxLen at hvc2
  have HRC : Hid (ERc w (.slice va xs.length vc) xs) := hO.row.rc
  clear hR hO hY hlen
  go_enter Try.func11, Try.ntmps11
  go_wp2_with fail
  refine (refPlace_any Y f _ E _ key _ HHY.out HERD.out HR.out).mono ?_
  rintro e w3 ⟨n, hn, rfl, hn1, hn2, m3, hw3⟩
  have HPL : Hid (plK (keysE E) key = n) := pl_of hE hn hn1 hn2
  have HB3 : Hid (Below w.heap.size w w3) := by rw [hw3]; exact below_drewS (Below.refl _ _) m3
  have hs3 : w3.heap.size = w.heap.size := by rw [hw3]; rfl
  have hnx : n ≤ xs.length := by rw [← hxe, List.length_map] at hn; exact hn
  clear hn1 hn2 hw3 hn hxe
  go_wp2_with fail
  go_loopw [7, 8] (fun o i wr => ∃ j oa oc, n + j ≤ xs.length ∧ (j : Int) ≤ (if most < 0 then 0 else most) ∧ i = .int .i64 ((n + j : Nat) : Int) ∧ o = .slice oa j oc ∧ Hid (OwnE wr w.heap.size (.slice oa j oc) ((xs.drop n).take j)) ∧ Hid (Below w.heap.size w wr)) (fun _ i _ => xs.length - (intOf i).toNat)
  case atStart => exact ⟨0, none, 0, by omega, by split <;> omega, rfl, rfl, OwnE.nil _ _, HB3.out⟩
  case round =>
    obtain ⟨j, oa, oc, hj, hjm, rfl, rfl, HOW, HBr⟩ := hrel
    have y0 := (cell_row ((HBr.out.block _ hYl).trans HHY.out) 0 (by simp)).1
    simp only [List.getElem_toArray, List.getElem_cons_zero] at y0
    have HFIN : Hid ((n + j = xs.length ∨ most ≤ (j : Int)) → ((xs.drop n).take j).map evE = skF E key most ∧ EvR wr ((xs.drop n).take j)) := by
      intro hc
      refine ⟨?_, fun x hx => (HO.out.evr.below HBr.out) x (List.mem_of_mem_drop (List.mem_of_mem_take hx))⟩
      rw [← HSK.out n HPL.out]
      congr 1
      rcases hc with hc | hc
      · rw [List.take_of_length_le (by rw [List.length_drop]; omega)]
        rcases Nat.lt_or_ge most.toNat j with h | h
        · split at hjm <;> omega
        · rw [List.take_of_length_le (by rw [List.length_drop]; omega)]
      · have : j = most.toNat := by split at hjm <;> omega
        rw [this]
    obtain ⟨p, Hp⟩ := hid_ex (n + j)
    have hpx : p ≤ xs.length := by rw [Hp.out]; exact hj
    rw [← Hp.out]
    by_cases hlt : p < xs.length
    · have hil : decide ((p : Int) < (xs.length : Int)) = true := by simp; omega
      by_cases hm : (j : Int) < most
      · have him : decide ((j : Int) < most) = true := by simp; omega
        obtain ⟨b, off, rfl, hbb, hcs⟩ := (HRC.out.below HBr.out).ptr (by omega)
        obtain ⟨Z, HZ⟩ := hid_ex xs[p]
        have hcs' := hcs p hlt
        rw [← HZ.out] at hcs'
        have HRZ : Hid (Reads wr Z.kv Z.k) := by rw [HZ.out]; exact (HO.out.evr.below HBr.out) _ (List.getElem_mem hlt)
        obtain ⟨kZ, Zk, Za⟩ := Z
        obtain ⟨ay, cy, eZ, _⟩ := HRZ.out.form
        simp only at eZ
        subst eZ
        have q0 := hcs' 0 (by decide)
        have q1 := hcs' 1 (by decide)
        have q2 := hcs' 2 (by decide)
        have q3 := hcs' 3 (by decide)
        have q4 := hcs' 4 (by decide)
        have q5 := hcs' 5 (by decide)
        have q6 := hcs' 6 (by decide)
        simp only [c7, List.getElem_cons_zero, List.getElem_cons_succ] at q0 q1 q2 q3 q4 q5 q6
        rw [show off + (7 * p + 0) = off + p * 7 by omega] at q0
        rw [show off + (7 * p + 1) = off + p * 7 + 1 by omega] at q1
        rw [show off + (7 * p + 2) = off + p * 7 + 2 by omega] at q2
        rw [show off + (7 * p + 3) = off + p * 7 + 3 by omega] at q3
        rw [show off + (7 * p + 4) = off + p * 7 + 4 by omega] at q4
        rw [show off + (7 * p + 5) = off + p * 7 + 5 by omega] at q5
        rw [show off + (7 * p + 6) = off + p * 7 + 6 by omega] at q6
        have hsr := HBr.out.size
        have hlj : ((xs.drop n).take j).length = j := by rw [List.length_take, List.length_drop]; omega
        obtain ⟨v2, w5, hrun2, hown2, hb2, -⟩ := run_appE (w := wr.alloc (.cells #[.slice ay Zk.length cy, .int .u64 Za.c, .bool Za.o, .int .i64 (hi Za.s), .int .u64 (lo Za.s), .int .i64 Za.mn, .int .i64 Za.mx] 36)) w.heap.size 26 (.slice oa j oc) (.slice (some ⟨wr.heap.size, 0, none⟩) 1 1) ((xs.drop n).take j) [⟨.slice ay Zk.length cy, Zk, Za⟩] (World.ownsRow.alloc HOW.out _) new7 (fun y hy => by
          obtain rfl := List.mem_singleton.1 hy
          exact HRZ.out.below ((Below.refl _ _).alloc (Nat.le_refl _) _)) (by rw [hlj]; simp; omega) (by simp; omega)
        have HST : Hid ((xs.drop n).take j ++ [(⟨.slice ay Zk.length cy, Zk, Za⟩ : Ev)] = (xs.drop n).take (j + 1)) := by
          have hpj : n + j < xs.length := by rw [← Hp.out]; exact hlt
          have hz : xs[n + j] = ⟨.slice ay Zk.length cy, Zk, Za⟩ := by rw [HZ.out]; simp [Hp.out]
          unfold Hid
          rw [take_step hpj, hz]
        rw [HST.out] at hown2
        have HB5 : Hid (Below w.heap.size w w5) := (HBr.out.alloc hsr _).trans hb2
        obtain ⟨o2, p2, e2, _, _⟩ := hown2.rc.form
        have hl2 : ((xs.drop n).take (j + 1)).length = j + 1 := by rw [List.length_take, List.length_drop]; have := Hp.out; omega
        rw [hl2] at e2
        subst e2
        have HO2 : Hid (OwnE w5 w.heap.size (.slice o2 (j + 1) p2) ((xs.drop n).take (j + 1))) := hown2
        clear hown2 hb2 hcs hcs' hl2 hlj
        go_wp2_with (at_builtin; refine wpList_app_runE rfl _ _ _ _ rfl rfl _ _ _ rfl rfl hrun2 ?_; clear hrun2)
        go_roundw
        case rel => exact ⟨j + 1, o2, p2, by have := Hp.out; omega, by split <;> omega, by rw [Hp.out]; go_num, rfl, HO2.out, HB5.out⟩
        case measure => simp [intOf]; omega
      · have him : decide ((j : Int) < most) = false := by simp; omega
        have HF := HFIN.out (.inr (by omega))
        go_wp2_with fail
        go_ret
        exact ⟨_, rfl, _, HOW.out, HF.2, HF.1, HBr.out⟩
    · have hil : decide ((p : Int) < (xs.length : Int)) = false := by simp; omega
      have HF := HFIN.out (.inl (by have := Hp.out; omega))
      go_wp2_with fail
      go_ret
      exact ⟨_, _, rfl, HOW.out, HF.2, HF.1, HBr.out⟩
end Go.Proofs.Ytoibmjmajbkbcaa

/- Bytes of one's own are turned (out of MA5). -/
namespace Go.Proofs.Ytoibmjmajbkbcaa
open Go.RowKit

theorem blk_set {W : World} {g i : Nat} {u : Value} {k : Nat} (h : k ≠ g) : (W.setCell ⟨g, i, none⟩ u).heap[k]? = W.heap[k]? := by
  simp [World.setCell, Array.getElem?_modify, Ne.symm h]
theorem oe_set {W : World} {base g i : Nat} {v : Value} {xs : List Ev} {cs : Array Value} (u : Value) (h : OwnE W base v xs) (hb : W.heap[g]? = some (.cells cs 5 (0, 0))) : OwnE (W.setCell ⟨g, i, none⟩ u) base v xs := by
  obtain ⟨h1, h2⟩ := h
  refine ⟨h1, ?_⟩
  rcases h2 with h2 | ⟨g', cap, cur, hv, hg, hw, r⟩
  · exact .inl h2
  · refine .inr ⟨g', cap, cur, hv, hg, ?_, r⟩
    rw [blk_set (by rintro rfl; rw [hb] at hw; simp at hw)]
    exact hw
theorem own_turn {W : World} {base g : Nat} {v : Value} {l : List UInt8} (i : Nat) (y : UInt8) (h : Own W base v l) : ∃ l' : List UInt8, l'.length = l.length ∧ Own (W.setCell ⟨g, i, none⟩ (bc y)) base v l' := by
  by_cases e : ∃ n cap, v = .slice (some ⟨g, 0, none⟩) n cap
  · obtain ⟨n, cap, rfl⟩ := e
    exact ⟨l.set i y, by simp, (h.stored i y).1⟩
  · refine ⟨l, rfl, ?_⟩
    obtain ⟨h1, h2⟩ := h
    refine ⟨h1, ?_⟩
    rcases h2 with h2 | ⟨g', cap, cur, hv, hg, hw, r⟩
    · exact .inl h2
    · refine .inr ⟨g', cap, cur, hv, hg, ?_, r⟩
      rw [blk_set (by rintro rfl; exact e ⟨_, _, hv⟩)]
      exact hw
theorem own_cells {W : World} {base g n cap : Nat} {l : List UInt8} (h : Own W base (.slice (some ⟨g, 0, none⟩) n cap) l) : ∃ cs, W.heap[g]? = some (.cells cs 5 (0, 0)) := by
  rcases h.2 with ⟨h2, _⟩ | ⟨g', cap, cur, hv, hg, hw, r⟩
  · simp at h2
  · simp at hv
    obtain ⟨rfl, _⟩ := hv
    exact ⟨cur, hw⟩
/-- Keys of one's own, whatever they hold. -/
def Kys (W : World) (base : Nat) (xs : List Ev) : Prop := ∀ x ∈ xs, ∃ l' : List UInt8, l'.length = x.k.length ∧ Own W base x.kv l'
theorem Kys.turn {W : World} {base g : Nat} {xs : List Ev} (y : UInt8) (h : Kys W base xs) : Kys (W.setCell ⟨g, 0, none⟩ (bc y)) base xs := by
  intro x hx
  obtain ⟨l, h1, h2⟩ := h x hx
  obtain ⟨l', h3, h4⟩ := own_turn (g := g) 0 y h2
  exact ⟨l', by omega, h4⟩
/-- What one turn of a byte does. -/
theorem turn_at {W : World} {base : Nat} {n cap g : Nat} {l : List UInt8} (h : Own W base (.slice (some ⟨g, 0, none⟩) n cap) l) {j : Nat} (h0 : j < l.length) : ∃ x y : UInt8, W.cell? ⟨g, j, none⟩ = some (.int .u8 (x.toNat : Int)) ∧ W.frozen? ⟨g, j, none⟩ = false ∧ bits .xor .u8 (x.toNat : Int) 255 = (y.toNat : Int) := by
  obtain ⟨h1, h2⟩ := h.at j h0
  have hx := (l[j]).toNat_lt
  have hxl : (l[j]).toNat ^^^ 255 < 2 ^ 8 := Nat.xor_lt_two_pow hx (by decide)
  have ey : (UInt8.ofNat ((l[j]).toNat ^^^ 255)).toNat = (l[j]).toNat ^^^ 255 := by rw [UInt8.toNat_ofNat', Nat.mod_eq_of_lt hxl]
  exact ⟨l[j], UInt8.ofNat ((l[j]).toNat ^^^ 255), h1, h2, by rw [ey]; exact u8_xor_nat _ 255 hx (by decide)⟩
theorem K1.set {g i : Nat} {A B : World} {u : Value} (h : K1 g A B) : K1 g A (B.setCell ⟨g, i, none⟩ u) := ⟨by rw [h.s]; simp, fun c hc => (blk_set hc).trans (h.k c hc)⟩
/-- The reference's list is frozen. -/
theorem RL.freeze {P : Nat → Prop} {w : World} {base Y : Nat} {E : List En} {f : Bool} (h : RL P w base Y E f) : RL P (w.setCell ⟨Y, 1, none⟩ (.bool true)) base Y E true ∧ Ku w (w.setCell ⟨Y, 1, none⟩ (.bool true)) ∧ base ≤ Y ∧ w.cell? ⟨Y, 1, none⟩ = some (.bool f) ∧ w.frozen? ⟨Y, 1, none⟩ = false := by
  obtain ⟨v, xs, h1, h2, h3, h4, h5, h6⟩ := h
  have hne : ∀ c cs T q, T ≠ 28 → w.heap[c]? = some (.cells cs T q) → c ≠ Y := by
    intro c cs T q hT hc e
    subst e
    rw [h1] at hc
    simp at hc
    exact hT hc.2.1.symm
  have hc1 := cell_row h1 1 (by simp)
  refine ⟨⟨v, xs, (Go.heap_setCell_same w Y 1 _ _ (.bool true) h1).trans rfl, eown_via h2 (fun c cs q hc => ?_) (fun x hx c cs q _ hc => ?_), h3, h4, h5, h6⟩, (Ku.of_below (Below.refl _ _)).set h1 (.inr rfl) _ _, h4, hc1.1, hc1.2⟩
  · rw [blk_set (hne _ _ _ _ (by decide) hc)]; exact hc
  · rw [blk_set (hne _ _ _ _ (by decide) hc)]; exact hc
end Go.Proofs.Ytoibmjmajbkbcaa

/- Calls, as arguments (out of OE). -/
namespace Go.Proofs.Ytoibmjmajbkbcaa
open Go.ChangeShapes Go.WideShapes Go.ChangeAt Go.RowKit Go.Joins

/-- A call: its kind, its height, how many at most, its entry. -/
structure Sp where
  k : Int
  h : Int
  m : Int
  x : En
structure SpOk (r : Sp) : Prop where
  k1 : -9223372036854775808 ≤ r.k
  k2 : r.k ≤ 9223372036854775807
  h1 : -9223372036854775808 ≤ r.h
  h2 : r.h ≤ 9223372036854775807
  m1 : -9223372036854775808 ≤ r.m
  m2 : r.m ≤ 9223372036854775807
  a : AgOk r.x.2
def s10 (kv : Value) (r : Sp) : List Value := [.int .i64 r.k, .int .i64 r.h, .int .i64 r.m, kv, .int .u64 r.x.2.c, .bool r.x.2.o, .int .i64 (hi r.x.2.s), .int .u64 (lo r.x.2.s), .int .i64 r.x.2.mn, .int .i64 r.x.2.mx]
def QReads (w : World) (v : Value) (L : List Sp) : Prop :=
  ∃ a cap, v = .slice a L.length cap ∧ L.length ≤ cap ∧ cap ≤ maxLen ∧ (L = [] ∨ ∃ b off, a = some ⟨b, off, none⟩ ∧ b < w.heap.size ∧ ∀ j (hj : j < L.length), ∃ kv, (∀ i (hi : i < 10), w.cell? ⟨b, off + (10 * j + i), none⟩ = some ((s10 kv L[j])[i]'hi)) ∧ Reads w kv L[j].x.1 ∧ SpOk L[j])
theorem QReads.below {w w' : World} {v : Value} {L : List Sp} (h : QReads w v L) (hb : Below w.heap.size w w') : QReads w' v L := by
  obtain ⟨a, cap, rfl, h1, h2, h3⟩ := h
  refine ⟨a, cap, rfl, h1, h2, ?_⟩
  rcases h3 with h3 | ⟨b, off, h4, h5, h6⟩
  · exact .inl h3
  · refine .inr ⟨b, off, h4, Nat.lt_of_lt_of_le h5 hb.size, fun j hj => ?_⟩
    obtain ⟨kv, g1, g2, g3⟩ := h6 j hj
    exact ⟨kv, fun i hi => (hb.cell (p := ⟨b, off + (10 * j + i), none⟩) h5).trans (g1 i hi), g2.below hb, g3⟩
theorem cellsInt : Try.prog.cellsOf 3 = 1 := by kernel_rfl
theorem cellsEn : Try.prog.cellsOf 36 = 7 := by kernel_rfl
theorem ten_of {α : Type} : ∀ {l : List α}, l.length = 10 → ∃ c0 c1 c2 c3 c4 c5 c6 c7 c8 c9, l = [c0, c1, c2, c3, c4, c5, c6, c7, c8, c9]
  | [c0, c1, c2, c3, c4, c5, c6, c7, c8, c9], _ => ⟨c0, c1, c2, c3, c4, c5, c6, c7, c8, c9, rfl⟩
set_option maxRecDepth 100000 in
theorem openQ' {H : Type} {enc : TypeId × Value → H} {W : World} {base : Nat} {spare : Nat → Bool} {held : Bool} {c0 c1 c2 c3 c4 c5 c6 c7 c8 c9 : Value} {x : DataW H × List MemPlace} {fuel : Nat}
    (hf : DataW.trod enc Try.prog W base spare held fuel 38 [c0, c1, c2, c3, c4, c5, c6, c7, c8, c9] = some x) : ∃ (kv : Value) (r : Sp), [c0, c1, c2, c3, c4, c5, c6, c7, c8, c9] = s10 kv r ∧ Reads W kv r.x.1 ∧ SpOk r := by
  obtain ⟨xs, n, _, _, _, hlen, hfs⟩ := DataW.trod_struct Try.underlying38 hf
  obtain ⟨y0, g0⟩ := some_of_len (i := 0) hlen (by decide)
  obtain ⟨y1, g1⟩ := some_of_len (i := 1) hlen (by decide)
  obtain ⟨y2, g2⟩ := some_of_len (i := 2) hlen (by decide)
  obtain ⟨y3, g3⟩ := some_of_len (i := 3) hlen (by decide)
  have e0 := (hfs 0 _ rfl).trans g0
  have e1 := (hfs 1 _ rfl).trans g1
  have e2 := (hfs 2 _ rfl).trans g2
  have e3 := (hfs 3 _ rfl).trans g3
  simp [cellsInt] at e0
  simp [cellsInt] at e1
  simp [cellsInt] at e2
  simp [cellsEn] at e3
  obtain ⟨a0, q0, _, w0⟩ := DataW.trod_int Try.underlying3 e0
  obtain ⟨a1, q1, _, w1⟩ := DataW.trod_int Try.underlying3 e1
  obtain ⟨a2, q2, _, w2⟩ := DataW.trod_int Try.underlying3 e2
  obtain ⟨kv, k, a, q3, hr, ha⟩ := openE' e3
  simp at q0 q1 q2
  subst q0 q1 q2
  have b0 := bounds_i64 w0
  have b1 := bounds_i64 w1
  have b2 := bounds_i64 w2
  refine ⟨kv, ⟨a0, a1, a2, (k, a)⟩, ?_, hr, ⟨b0.1, b0.2, b1.1, b1.2, b2.1, b2.2, ha⟩⟩
  rw [q3]; rfl
set_option maxRecDepth 100000 in
theorem openQ {H : Type} {enc : TypeId × Value → H} {W : World} {r : Reach} {b0 base : Nat} {spare : Nat → Bool} {held : Bool} {v : Value} {d : DataW H} {p : List MemPlace}
    (hv : Value.okWide Try.prog W r b0 22 v) (h : DataW.Trod enc Try.prog W base spare held 22 v d p) : ∃ L : List Sp, QReads W v L := by
  obtain ⟨a, len, cap, rfl⟩ := okWide_slice Try.underlying22 hv
  obtain ⟨fuel, hf⟩ := h
  rcases Go.Deep.open_slice Try.underlying22 hf with ⟨hcs, _⟩ | ⟨x, l, c, m, n, D, Pl, hcs, _, hl, hm, hz, _, hcell⟩
  · simp [Value.cells] at hcs
    obtain ⟨rfl, rfl, rfl⟩ := hcs
    exact ⟨[], none, 0, rfl, by simp, by simp, .inl rfl⟩
  · simp [Value.cells] at hcs
    obtain ⟨rfl, rfl, rfl⟩ := hcs
    have hzl : len ≤ m := by rw [hz]; split <;> omega
    have hce : Try.prog.cellsOf 38 = 10 := by kernel_rfl
    rw [hce] at hcell
    have hall : ∀ j, ∃ (y : Value × Sp), j < len → (∀ i (hi : i < 10), W.cell? (x.add (10 * j + i)) = some ((s10 y.1 y.2)[i]'hi)) ∧ Reads W y.1 y.2.x.1 ∧ SpOk y.2 := by
      intro j
      by_cases hj : j < len
      · obtain ⟨cs', hc1, hc2⟩ := hcell j (by omega)
        obtain ⟨_, hl7, hq⟩ := World.cells?_some hc1
        obtain ⟨c0, c1, c2, c3, c4, c5, c6, c7, c8, c9, rfl⟩ := ten_of hl7
        obtain ⟨kv, r, e, hr, ha⟩ := openQ' hc2
        refine ⟨(kv, r), fun _ => ⟨fun i hi => ?_, hr, ha⟩⟩
        have h1 := hq i hi
        rw [e, List.getElem?_eq_getElem (show i < (s10 kv r).length from hi)] at h1
        have ea : (x.add (j * 10)).add i = x.add (10 * j + i) := by
          obtain ⟨xb, xo, xs⟩ := x
          by_cases h1 : j = 0
          · subst h1; simp [Addr.add]
          · have h2 : j * 10 ≠ 0 := by omega
            have h3 : 10 * j + i ≠ 0 := by omega
            by_cases h4 : i = 0
            · subst h4
              have h5 : j * 10 = 10 * j + 0 := by omega
              rw [h5]
              simp [Addr.add]
            · have h5 : xo + j * 10 + i = xo + (10 * j + i) := by omega
              unfold Addr.add
              rw [if_neg h2, if_neg h4, if_neg h3]
              simp only [h5]
        rw [ea] at h1
        exact h1
      · exact ⟨(.bool false, ⟨0, 0, 0, ([], agZ)⟩), fun h => absurd h hj⟩
    obtain ⟨ys, hys⟩ := Classical.axiomOfChoice hall
    rcases Nat.eq_zero_or_pos len with h0 | h0
    · subst h0
      exact ⟨[], _, cap, rfl, by simp, hm, .inl rfl⟩
    · have k0 := (hys 0 h0).1 0 (by decide)
      have e0 : x.add (10 * 0 + 0) = x := by simp [Addr.add]
      rw [e0] at k0
      obtain ⟨hb, hs⟩ := cell_block k0
      obtain ⟨b, off, spot⟩ := x
      simp only at hb hs
      subst hs
      refine ⟨(List.range len).map fun j => (ys j).2, _, cap, by simp, by simpa using hl, hm, .inr ⟨b, off, rfl, hb, fun j hj => ?_⟩⟩
      simp at hj
      obtain ⟨g1, g2, g3⟩ := hys j hj
      have ej : ((List.range len).map fun j => (ys j).2)[j]'(by simpa using hj) = (ys j).2 := by simp
      rw [ej]
      refine ⟨(ys j).1, fun i hi => ?_, g2, g3⟩
      have ea : (⟨b, off, none⟩ : Addr).add (10 * j + i) = ⟨b, off + (10 * j + i), none⟩ := by simp [Addr.add]
      have := g1 i hi
      rw [ea] at this
      exact this
end Go.Proofs.Ytoibmjmajbkbcaa

/- SkipLives: what a round keeps (written by mksv9.py). -/
namespace Go.Proofs.Ytoibmjmajbkbcaa
open Go.RowKit

/-- What a round of the law keeps. -/
structure LvI (w : World) (base L0 Y n : Nat) (E : List En) (fr : Bool) (W : World) : Prop where
  s : SK W base L0 E fr
  r : RL (fun _ => True) W base Y E fr
  l : E.length ≤ n
  b : Below base w W
theorem LvI.below {w : World} {base L0 Y n : Nat} {E : List En} {fr : Bool} {W W' : World} (h : LvI w base L0 Y n E fr W) (hb : Below W.heap.size W W') (hs : base ≤ W.heap.size) : LvI w base L0 Y n E fr W' := ⟨h.s.below hb, h.r.below hb, h.l, h.b.trans (hb.mono hs)⟩
theorem opbox {w : World} {b : Nat} {T : TypeId} {c0 c1 c2 c3 c4 c5 c6 c7 c8 c9 : Value} (h : w.heap[b]? = some (.cells #[c0, c1, c2, c3, c4, c5, c6, c7, c8, c9] T)) :
    w.cell? ⟨b, 0, none⟩ = some c0 ∧ w.cell? ⟨b, 1, none⟩ = some c1 ∧ w.cell? ⟨b, 2, none⟩ = some c2 ∧ w.cell? ⟨b, 3, none⟩ = some c3 ∧ w.cell? ⟨b, 4, none⟩ = some c4 ∧ w.cell? ⟨b, 5, none⟩ = some c5 ∧ w.cell? ⟨b, 6, none⟩ = some c6 ∧ w.cell? ⟨b, 7, none⟩ = some c7 ∧ w.cell? ⟨b, 8, none⟩ = some c8 ∧ w.cell? ⟨b, 9, none⟩ = some c9 := by
  refine ⟨?_, ?_, ?_, ?_, ?_, ?_, ?_, ?_, ?_, ?_⟩ <;> simp [World.cell?, h]
theorem six {w : World} {b : Nat} {T : TypeId} {c0 c1 c2 c3 c4 c5 : Value} (h : w.heap[b]? = some (.cells #[c0, c1, c2, c3, c4, c5] T)) : w.cell? ⟨b, 0, none⟩ = some c0 ∧ w.cell? ⟨b, 1, none⟩ = some c1 ∧ w.cell? ⟨b, 2, none⟩ = some c2 ∧ w.cell? ⟨b, 3, none⟩ = some c3 ∧ w.cell? ⟨b, 4, none⟩ = some c4 ∧ w.cell? ⟨b, 5, none⟩ = some c5 := by
  refine ⟨?_, ?_, ?_, ?_, ?_, ?_⟩ <;> simp [World.cell?, h]
theorem get_E {L0 : Nat} {E : List En} {fr : Bool} {w : World} {base : Nat} (hS : SK w base L0 E fr) (hs : srt E) (kv : Value) (key : Ks) (hR : Reads w kv key) :
    Calls Try.prog 13 #[.pointer (some ⟨L0, 0, none⟩), kv] w fun e w' => e = .returned (.tuple #[agv ((lkE E key).getD agZ), .bool (lkE E key).isSome]) ∧ Below w.heap.size w w' := by
  obtain ⟨N, hSL, rfl⟩ := hS
  rw [← gtF_lk hs]
  exact get_any _ _ _ _ _ _ _ _ hSL hR
/-- What Seek of one tells, and what is known of a key. -/
theorem seek1 {E : List En} (hs : srt E) (X : Ks) : (∃ x, skF E X 1 = [x] ∧ ((x.1 = X ∧ lkE E X = some x.2) ∨ (x.1 ≠ X ∧ lkE E X = none))) ∨ (skF E X 1 = [] ∧ lkE E X = none) := by
  obtain ⟨h1, h2⟩ := cut_pl hs X
  have hle := pl_len E X
  unfold skF
  generalize hp : plK (keysE E) X = p at *
  have hsplit : E = E.take p ++ E.drop p := (List.take_append_drop p E).symm
  have hA : lkE (E.take p) X = none := lkE_none fun x hx e => ltK_ne (h1 x hx) e
  have hlk : lkE E X = lkE (E.drop p) X := by
    conv => lhs; rw [hsplit, lkE_app, hA]
    rfl
  rcases Nat.lt_or_ge p E.length with hlt | hge
  · left
    have hd : E.drop p = E[p] :: E.drop (p + 1) := List.drop_eq_getElem_cons hlt
    refine ⟨E[p], by rw [hd]; rfl, ?_⟩
    rw [hlk, hd, lkE_cons]
    by_cases hk : E[p].1 = X
    · left
      exact ⟨hk, by rw [if_pos hk]⟩
    · right
      refine ⟨hk, ?_⟩
      rw [if_neg hk]
      refine lkE_none fun x hx e => ?_
      obtain ⟨j, hj, rfl⟩ := List.getElem_of_mem hx
      rw [List.length_drop] at hj
      rw [List.getElem_drop] at e
      have hso := List.pairwise_iff_getElem.1 hs p (p + 1 + j) (by simp [keysE]; omega) (by simp [keysE]; omega) (by omega)
      simp only [keysE, List.getElem_map] at hso
      rw [e] at hso
      exact h2 E[p] (by rw [hd]; exact List.mem_cons_self ..) hso
  · right
    have hd : E.drop p = [] := List.drop_eq_nil_of_le hge
    rw [hlk, hd]
    exact ⟨rfl, rfl⟩
theorem new_rl {w : World} (base : Nat) (hb : base ≤ w.heap.size) : RL (fun _ => True) (w.alloc (.cells #[.slice none 0 0, .bool false] 28)) base w.heap.size [] false :=
  ⟨.slice none 0 0, [], World.alloc_heap_new _ _, ⟨World.ownsRow_nil _ _ _ _, fun x hx => by cases hx⟩, rfl, hb, (fun x hx => by cases hx), fun g hg => by cases hg⟩
end Go.Proofs.Ytoibmjmajbkbcaa
