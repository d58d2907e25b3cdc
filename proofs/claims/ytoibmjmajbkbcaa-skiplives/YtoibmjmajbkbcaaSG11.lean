/- SV1 SV2 SV3 SV4, joined. -/
import Derived.Test.YtoibmjmajbkbcaaSG9
import Derived.Test.YtoibmjmajbkbcaaSG10
import Derived.BigQuiet
import Derived.Deep.QuietTactic
/- The reference's Place (layer 8), of any list. -/
namespace Go.Proofs.Ytoibmjmajbkbcaa
open Go.RowKit

theorem lessB_iff : ∀ a b : Ks, Op.bytesLess a b = true ↔ Lib.compareBytes a b = -1
  | [], [] => by simp [Op.bytesLess, Lib.compareBytes]
  | [], _ :: _ => by simp [Op.bytesLess, Lib.compareBytes]
  | _ :: _, [] => by simp [Op.bytesLess, Lib.compareBytes]
  | x :: a, y :: b => by
    have ih := lessB_iff a b
    simp only [Op.bytesLess, Lib.compareBytes]
    by_cases h1 : x < y
    · simp [h1]
    · rw [if_neg h1]
      by_cases h2 : y < x
      · have : x ≠ y := fun e => by subst e; exact h1 h2
        simp [h1, h2, this]
      · have : x = y := u8_tri h1 h2
        subst this
        simp [ih]
theorem below_dnS (w : World) (n : Nat) : Below w.heap.size w (w.drewN n) := ⟨rfl, rfl, rfl, Nat.le_refl _, fun _ _ => rfl⟩
set_option maxRecDepth 100000 in
set_option maxHeartbeats 2000000 in
theorem refPlace_any (Y : Nat) (f : Bool) (v : Value) (L : List En) (kv : Value) (X : Ks) (w : World) (hY : w.heap[Y]? = some (.cells #[v, .bool f] 28)) (hE : ERd w v L) (hR : Reads w kv X) :
    Calls Try.prog 25 #[.pointer (some ⟨Y, 0, none⟩), kv] w fun e w' => ∃ n : Nat, n ≤ L.length ∧ e = .returned (.int .i64 (n : Int)) ∧ (∀ j (hj : j < L.length), j < n → ltK L[j].1 X) ∧ (∀ hn : n < L.length, ¬ ltK L[n].1 X) ∧ ∃ m, w' = w.drewN m := by
  have HE : Hid (ERd w v L) := hE
  have HR : Hid (Reads w kv X) := hR
  obtain ⟨a, cap, rfl, hm1, hm2, h3⟩ := hE
  have H3 : Hid (L = [] ∨ ∃ b off, a = some ⟨b, off, none⟩ ∧ b < w.heap.size ∧ ∀ j (hj : j < L.length), ∃ kv, (∀ i (hi : i < 7), w.cell? ⟨b, off + j * 7 + i, none⟩ = some ((c7 ⟨kv, L[j].1, L[j].2⟩)[i]'hi)) ∧ Reads w kv L[j].1) := h3
  unfold maxLen at hm2
  obtain ⟨ax, cx, rfl, _⟩ := hR.form
  have y0 : w.cell? ⟨Y, 0, none⟩ = some (.slice a L.length cap) := by rw [Go.Joins.cell_of_block hY]; rfl
  clear hR h3 hY
  go_enter Try.func25, Try.ntmps25
  go_wp2_with fail
  go_loopw [5] (fun i wr => ∃ k m : Nat, k ≤ L.length ∧ i = .int .i64 (k : Int) ∧ Hid (∀ j (hj : j < L.length), j < k → ltK L[j].1 X) ∧ wr = w.drewN m) (fun i _ => L.length - (intOf i).toNat)
  case atStart => exact ⟨0, 0, by omega, rfl, (fun j hj h => by omega), rfl⟩
  case round =>
    obtain ⟨k, m, hk, rfl, HN, rfl⟩ := hrel
    obtain ⟨wr, HWR⟩ := hid_ex (w.drewN m)
    rw [← HWR.out]
    have HBr : Hid (Below w.heap.size w wr) := by rw [HWR.out]; exact below_dnS w m
    have z0 : wr.cell? ⟨Y, 0, none⟩ = some (.slice a L.length cap) := by rw [HWR.out]; exact y0
    have HRr : Hid (Reads wr (.slice ax X.length cx) X) := HR.out.below HBr.out
    have hq2 : ∀ n, (convert 29 9 (.slice ax X.length cx)).run Try.prog (wr.drewN n) = .ok (.string ⟨X.toArray⟩) (wr.drewN n) := fun n => reads_text (HRr.out.below (below_dnS _ n))
    have HDN : Hid (∀ n, wr.drewN n = w.drewN (m + n)) := fun n => by rw [HWR.out]; exact World.drewN_drewN ..
    by_cases hlt : k < L.length
    · obtain ⟨b, off, rfl, hb, hc⟩ := H3.out.resolve_left (fun h => by rw [h] at hlt; simp at hlt)
      obtain ⟨kv, hcell, hrd⟩ := hc k hlt
      have HGO : Hid (ltK L[k].1 X → ∀ j (hj : j < L.length), j < k + 1 → ltK L[j].1 X) := fun h2 j hj hjk => by
        rcases Nat.lt_or_ge j k with h | h
        · exact HN.out j hj h
        · have : j = k := by omega
          subst this; exact h2
      have HNO : Hid (¬ ltK L[k].1 X → ∀ hn : k < L.length, ¬ ltK L[k].1 X) := fun h _ => h
      obtain ⟨Q, HQ⟩ := hid_ex L[k]
      rw [← HQ.out] at hcell hrd HGO HNO
      obtain ⟨Qk, Qa⟩ := Q
      simp only at hrd HGO HNO
      have HQR : Hid (Reads wr kv Qk) := hrd.below HBr.out
      obtain ⟨aq, cq, rfl, _⟩ := hrd.form
      have q0 : wr.cell? ⟨b, off + k * 7, none⟩ = some (.slice aq Qk.length cq) := (HBr.out.cell (p := ⟨b, off + k * 7, none⟩) hb).trans (hcell 0 (by decide))
      have hq1 : ∀ n, (convert 29 9 (.slice aq Qk.length cq)).run Try.prog (wr.drewN n) = .ok (.string ⟨Qk.toArray⟩) (wr.drewN n) := fun n => reads_text (HQR.out.below (below_dnS _ n))
      have hil : decide ((k : Int) < (L.length : Int)) = true := by simp; omega
      clear hc hcell hrd hb HQ y0
      by_cases hl : ltK Qk X
      · have hle : Op.bytesLess Qk X = true := (lessB_iff _ _).2 hl
        have HG2 : Hid (∀ j (hj : j < L.length), j < k + 1 → ltK L[j].1 X) := HGO.out hl
        clear hl HGO HNO
        go_wp2_with fail
        go_quiet (fail)
        have HD2 : Hid (wr.drewN nq = w.drewN (m + nq)) := HDN.out nq
        clear q0 z0 hq1 hq2
        go_wp2_with fail
        go_roundw
        case rel => exact ⟨k + 1, m + nq, by omega, by go_num, HG2.out, HD2.out⟩
        case measure => simp [intOf]; omega
      · have hle : Op.bytesLess Qk X = false := Bool.eq_false_iff.2 (fun h => hl ((lessB_iff _ _).1 h))
        have HN2 : Hid (∀ hn : k < L.length, ¬ ltK L[k].1 X) := fun hn => HNO.out hl hn
        clear hl HGO HNO
        go_wp2_with fail
        go_quiet (fail)
        have HD2 : Hid (wr.drewN nq = w.drewN (m + nq)) := HDN.out nq
        clear q0 z0 hq1 hq2
        go_wp2_with fail
        go_ret
        exact ⟨k, by omega, rfl, HN.out, HN2.out, _, HD2.out⟩
    · have hil : decide ((k : Int) < (L.length : Int)) = false := by simp; omega
      clear y0
      go_wp2_with fail
      go_quiet (fail)
      have HD2 : Hid (wr.drewN nq = w.drewN (m + nq)) := HDN.out nq
      clear z0 hq2
      go_wp2_with fail
      go_ret
      exact ⟨k, by omega, rfl, HN.out, fun hn => absurd hn hlt, _, HD2.out⟩
end Go.Proofs.Ytoibmjmajbkbcaa

/- The reference's Size (layer 8). -/
namespace Go.Proofs.Ytoibmjmajbkbcaa
open Go.RowKit

theorem sizE_take (L : List En) (k : Nat) (hk : k < L.length) : sizE (L.take (k + 1)) = sizE (L.take k) + L[k].1.length + 41 := by
  unfold sizE
  rw [List.take_succ_eq_append_getElem hk, List.map_append, List.sum_append]
  simp
  omega
theorem sizE_le {L : List En} (h : ∀ x ∈ L, x.1.length ≤ 1000) : sizE L ≤ L.length * 1041 := by
  induction L with
  | nil => simp [sizE]
  | cons x L ih =>
    have h1 := ih (fun y hy => h y (List.mem_cons_of_mem _ hy))
    have h2 := h x (List.mem_cons_self ..)
    unfold sizE at *
    simp only [List.map_cons, List.sum_cons, List.length_cons]
    omega
set_option maxRecDepth 100000 in
set_option maxHeartbeats 2000000 in
theorem refSize_any (Y : Nat) (f : Bool) (v : Value) (L : List En) (w : World) (hY : w.heap[Y]? = some (.cells #[v, .bool f] 28)) (hE : ERd w v L) (hl : L.length ≤ 5000) (hk : ∀ x ∈ L, x.1.length ≤ 1000) :
    Calls Try.prog 17 #[.pointer (some ⟨Y, 0, none⟩)] w fun e w' => e = .returned (.int .i64 (sizE L : Nat)) ∧ w' = w := by
  have HK : Hid (∀ x ∈ L, x.1.length ≤ 1000) := hk
  obtain ⟨a, cap, rfl, hm1, hm2, h3⟩ := hE
  have H3 : Hid (L = [] ∨ ∃ b off, a = some ⟨b, off, none⟩ ∧ b < w.heap.size ∧ ∀ j (hj : j < L.length), ∃ kv, (∀ i (hi : i < 7), w.cell? ⟨b, off + j * 7 + i, none⟩ = some ((c7 ⟨kv, L[j].1, L[j].2⟩)[i]'hi)) ∧ Reads w kv L[j].1) := h3
  unfold maxLen at hm2
  have y0 : w.cell? ⟨Y, 0, none⟩ = some (.slice a L.length cap) := by rw [Go.Joins.cell_of_block hY]; rfl
  clear h3 hY hk
  go_enter Try.func17, Try.ntmps17
  go_wp2_with fail
  go_loopw [3, 4] (fun s i wr => ∃ k : Nat, k ≤ L.length ∧ i = .int .i64 (k : Int) ∧ s = .int .i64 ((sizE (L.take k) : Nat) : Int) ∧ wr = w) (fun _ i _ => L.length - (intOf i).toNat)
  case atStart => exact ⟨0, by omega, rfl, by simp [sizE], rfl⟩
  case round =>
    obtain ⟨k, hk, rfl, rfl, rfl⟩ := hrel
    by_cases hlt : k < L.length
    · obtain ⟨b, off, rfl, hb, hc⟩ := H3.out.resolve_left (fun h => by rw [h] at hlt; simp at hlt)
      obtain ⟨kv, hcell, hrd⟩ := hc k hlt
      have hkl : L[k].1.length ≤ 1000 := HK.out _ (List.getElem_mem hlt)
      have HSZ : Hid (sizE (L.take (k + 1)) = sizE (L.take k) + L[k].1.length + 41) := sizE_take L k hlt
      have hsl : sizE (L.take k) ≤ 5205000 := by
        have h1 := sizE_le (L := L.take k) (fun x hx => HK.out x (List.mem_of_mem_take hx))
        have h2 := List.length_take_le k L
        omega
      obtain ⟨Q, HQ⟩ := hid_ex L[k]
      rw [← HQ.out] at hcell hrd hkl HSZ
      obtain ⟨aq, cq, rfl, _⟩ := hrd.form
      obtain ⟨n, Hn⟩ := hid_ex (sizE (L.take k))
      obtain ⟨q, Hq⟩ := hid_ex Q.1.length
      rw [← Hn.out] at hsl HSZ ⊢
      rw [← Hq.out] at HSZ hkl
      have q0 := hcell 0 (by decide)
      simp only [c7, List.getElem_cons_zero, Nat.add_zero] at q0
      rw [← Hq.out] at q0
      clear hc hcell hrd HQ Hn Hq
      go_wp2_with fail
      go_roundw
      case rel => exact ⟨k + 1, by omega, by go_num, by rw [HSZ.out]; go_num, by trivial⟩
      case measure => simp [intOf]; omega
    · have hkk : L.take k = L := List.take_of_length_le (by omega)
      rw [hkk]
      clear hkk
      go_wp2_with fail
      go_ret
      exact ⟨rfl, rfl⟩
end Go.Proofs.Ytoibmjmajbkbcaa

/- Entries that are copied from row to row, with their keys' slices as they are (skip's seat; out of MA2). -/
namespace Go.Proofs.Ytoibmjmajbkbcaa
open Go.RowKit

/-- A slice holds these entries. -/
def ERc (w : World) (v : Value) (xs : List Ev) : Prop :=
  ∃ a cap, v = .slice a xs.length cap ∧ xs.length ≤ cap ∧ cap ≤ maxLen ∧ (xs = [] ∨ ∃ b off, a = some ⟨b, off, none⟩ ∧ b < w.heap.size ∧ ∀ j (hj : j < xs.length) i (hi : i < 7), w.cell? ⟨b, off + (7 * j + i), none⟩ = some ((c7 xs[j])[i]'hi))
/-- What they hold can be read. -/
def EvR (w : World) (xs : List Ev) : Prop := ∀ x ∈ xs, Reads w x.kv x.k
theorem EvR.below {w w' : World} {xs : List Ev} (h : EvR w xs) (hb : Below w.heap.size w w') : EvR w' xs := fun x hx => (h x hx).below hb
theorem ERc.below {w w' : World} {v : Value} {xs : List Ev} (h : ERc w v xs) (hb : Below w.heap.size w w') : ERc w' v xs := by
  obtain ⟨a, cap, rfl, h1, h2, h3⟩ := h
  refine ⟨a, cap, rfl, h1, h2, ?_⟩
  rcases h3 with h3 | ⟨b, off, h4, h5, h6⟩
  · exact .inl h3
  · exact .inr ⟨b, off, h4, Nat.lt_of_lt_of_le h5 hb.size, fun j hj i hi => (hb.cell (p := ⟨b, off + (7 * j + i), none⟩) h5).trans (h6 j hj i hi)⟩
theorem ERc.form {w : World} {v : Value} {xs : List Ev} (h : ERc w v xs) : ∃ a cap, v = .slice a xs.length cap ∧ xs.length ≤ cap ∧ cap ≤ maxLen := by
  obtain ⟨a, cap, rfl, h1, h2, _⟩ := h
  exact ⟨a, cap, rfl, h1, h2⟩
theorem ERc.ptr {w : World} {a : Option Addr} {n cap : Nat} {xs : List Ev} (h : ERc w (.slice a n cap) xs) (h0 : 0 < xs.length) : ∃ b off, a = some ⟨b, off, none⟩ ∧ b < w.heap.size ∧ ∀ j (hj : j < xs.length) i (hi : i < 7), w.cell? ⟨b, off + (7 * j + i), none⟩ = some ((c7 xs[j])[i]'hi) := by
  obtain ⟨a', cap', hv, h1, h2, h3⟩ := h
  simp at hv
  obtain ⟨rfl, rfl, rfl⟩ := hv
  rcases h3 with rfl | h3
  · simp at h0
  · exact h3
theorem ERc.sliced {w : World} {a : Option Addr} {cap : Nat} {xs : List Ev} (h : ERc w (.slice a xs.length cap) xs) {c d : Nat} (hc : c ≤ d) (hd : d ≤ xs.length) : ERc w (Go.sliced a c d cap 7) ((xs.take d).drop c) := by
  obtain ⟨a', cap', hv, h1, h2, h3⟩ := h
  simp at hv
  obtain ⟨rfl, rfl⟩ := hv
  unfold Go.sliced
  have hl : ((xs.take d).drop c).length = d - c := by simp; omega
  refine ⟨_, cap - c, by rw [hl], by rw [hl]; omega, by omega, ?_⟩
  rcases Nat.eq_zero_or_pos (d - c) with h0 | h0
  · exact .inl (List.length_eq_zero_iff.1 (by rw [hl]; exact h0))
  · right
    rcases h3 with rfl | ⟨b, off, rfl, h5, h6⟩
    · simp at hd; omega
    · rw [if_neg (by omega)]
      refine ⟨b, off + c * 7, by simp [Addr.add], h5, fun j hj i hi => ?_⟩
      rw [hl] at hj
      rw [show off + c * 7 + (7 * j + i) = off + (7 * (c + j) + i) by omega, h6 (c + j) (by omega) i hi]
      congr 2
      simp
theorem elemE : Try.prog.elem 26 = 36 := by kernel_rfl
theorem undE : Try.prog.underlying 26 = some (.slice (Try.prog.elem 26)) := by rw [elemE]; exact Try.underlying26
theorem sizeE7 (w : World) : (sizeOf 36).run Try.prog w = .ok 7 w := by
  simp [sizeOf]
  rfl
theorem esl_upto {w : World} {a : Option Addr} {cap : Nat} {xs : List Ev} (h : ERc w (.slice a xs.length cap) xs) {d : Nat} (hd : d ≤ xs.length) :
    ∃ a' cap', (∀ w', (Instr.slice 26 (.slice a xs.length cap) none (some (.int .i64 (d : Int))) none).run Try.prog w' = .ok (.slice a' d cap') w') ∧ ERc w (.slice a' d cap') (xs.take d) := by
  have hcap : xs.length ≤ cap := by obtain ⟨a', cap', hv, h1, _⟩ := h; simp at hv; omega
  have hs := h.sliced (Nat.zero_le d) hd
  refine ⟨(if cap = 0 then a else a.map (·.add (0 * 7))), cap - 0, fun w' => ?_, hs⟩
  rw [run_slice_h _ _ _ _ _ undE _ _ (by omega) (by omega), elemE, sizeE7]
  rfl
theorem esl_from {w : World} {a : Option Addr} {cap : Nat} {xs : List Ev} (h : ERc w (.slice a xs.length cap) xs) {c : Nat} (hc : c ≤ xs.length) :
    ∃ a' cap', (∀ w', (Instr.slice 26 (.slice a xs.length cap) (some (.int .i64 (c : Int))) none none).run Try.prog w' = .ok (.slice a' (xs.length - c) cap') w') ∧ ERc w (.slice a' (xs.length - c) cap') (xs.drop c) := by
  have hcap : xs.length ≤ cap := by obtain ⟨a', cap', hv, h1, _⟩ := h; simp at hv; omega
  have hs := h.sliced hc (Nat.le_refl _)
  rw [List.take_length] at hs
  refine ⟨(if cap = c then a else a.map (·.add (c * 7))), cap - c, fun w' => ?_, hs⟩
  rw [run_slice_l _ _ _ _ _ undE _ _ (by omega) (by omega), elemE, sizeE7]
  rfl
/-- A row of one's own. -/
def OwnE (w : World) (base : Nat) (v : Value) (xs : List Ev) : Prop := w.ownsRow base 36 7 v xs.length (xs.flatMap c7)
theorem OwnE.nil (w : World) (base : Nat) : OwnE w base (.slice none 0 0) [] := World.ownsRow_nil _ _ _ _
theorem OwnE.below {w w' : World} {base : Nat} {v : Value} {xs : List Ev} (h : OwnE w base v xs) (hb : Below w.heap.size w w') : OwnE w' base v xs := by
  have hlt := World.ownsRow.lt h
  obtain ⟨h1, h2⟩ := h
  refine ⟨h1, ?_⟩
  rcases h2 with h2 | ⟨g, cap, cur, hv, hg, hw, r⟩
  · exact .inl h2
  · exact .inr ⟨g, cap, cur, hv, hg, (hb.block g (hlt g (by rw [hv]; rfl)).2).trans hw, r⟩
theorem OwnE.rc {w : World} {base : Nat} {v : Value} {xs : List Ev} (h : OwnE w base v xs) : ERc w v xs := by
  have hlt := World.ownsRow.lt h
  have hr := h
  obtain ⟨h1, h2⟩ := h
  rcases h2 with ⟨rfl, h0⟩ | ⟨g, cap, cur, hv, hg, hw, hc, hm, hs, ht⟩
  · exact ⟨none, 0, by rw [h0], by omega, by simp, .inl (List.length_eq_zero_iff.1 h0)⟩
  · rw [hv] at hr
    refine ⟨_, cap, hv, hc, hm, .inr ⟨g, 0, rfl, (hlt g (by rw [hv]; rfl)).2, fun j hj i hi => ?_⟩⟩
    rw [show 0 + (7 * j + i) = 7 * j + i by omega, World.ownsRow.cellAt hr _ (by omega), flat7 xs j i hj hi, List.getElem?_eq_getElem hi]
theorem flat_len7 (xs : List Ev) : (xs.flatMap c7).length = xs.length * 7 := by
  induction xs with
  | nil => rfl
  | cons x xs ih => rw [List.flatMap_cons, List.length_append, ih, c7_len, List.length_cons]; omega
theorem infoE : (Try.prog.info? 36).map (fun i => (i.zero.map Value.cells, i.size, i.bytes)) = some (some #[.slice none 0 0, .int .u64 0, .bool false, .int .i64 0, .int .u64 0, .int .i64 0, .int .i64 0], 7, 72) := by kernel_rfl
theorem one_c7 {w : World} (xs : List Ev) (h : EvR w xs) : ∀ u ∈ xs.flatMap c7, u.oneCell' = true := by
  intro u hu
  obtain ⟨x, hx, hu⟩ := List.mem_flatMap.1 hu
  obtain ⟨a, cap, e, _⟩ := (h x hx).form
  unfold c7 at hu
  rw [e] at hu
  simp at hu
  rcases hu with rfl | rfl | rfl | rfl | rfl | rfl | rfl <;> rfl
/-- Entries behind those of one's own. -/
theorem run_appE {w : World} (base : Nat) (ty : TypeId) (v sv : Value) (xs ys : List Ev) (hown : OwnE w base v xs) (hs : ERc w sv ys) (hr : EvR w ys) (hlen : xs.length + ys.length ≤ 1000000000) (hbase : base ≤ w.heap.size) :
    ∃ v' w', (Builtin.append_ #[26, 26] ty #[v, sv]).run Try.prog w = .ok v' w' ∧ OwnE w' base v' (xs ++ ys) ∧ Below base w w' ∧ w.grownBy w' v.ownBlock := by
  have hinf := infoE
  cases hi0 : Try.prog.info? 36 with
  | none => rw [hi0] at hinf; cases hinf
  | some i0 =>
    rw [hi0] at hinf
    simp only [Option.map_some, Option.some.injEq, Prod.mk.injEq] at hinf
    obtain ⟨hz0, hz1, hz2⟩ := hinf
    obtain ⟨z, hz, hzc⟩ := Option.map_eq_some_iff.1 hz0
    obtain ⟨a, cap, rfl, h1, h2, h3⟩ := hs
    have gen : ∀ ad : Addr, (∀ j u, (ys.flatMap c7)[j]? = some u → w.cell? (ad.add j) = some u) → ∃ v' w', (Builtin.append_ #[26, 26] ty #[v, .slice (some ad) ys.length cap]).run Try.prog w = .ok v' w' ∧ OwnE w' base v' (xs ++ ys) ∧ Below base w w' ∧ w.grownBy w' v.ownBlock := by
      intro ad hnews
      obtain ⟨v', w', hrun, ho, hg, _⟩ := run_append_own (P := Try.prog) w base 26 ty 36 i0 z 7 72 Try.underlying26 hi0 hz hz1 hz2 (by rw [hzc]; rfl) (by decide) v xs.length (xs.flatMap c7) hown ad ys.length cap (ys.flatMap c7) (flat_len7 ys) hnews (one_c7 ys hr) (by simp [maxLen]; omega) (by omega) hbase
      refine ⟨v', w', hrun, ?_, (Below.refl _ _).grown hg hbase (own_block hown), hg⟩
      unfold OwnE
      rw [List.length_append, List.flatMap_append]
      exact ho
    rcases h3 with rfl | ⟨b, off, rfl, h5, h6⟩
    · cases a with
      | none =>
        refine ⟨v, w, ?_, by rw [List.append_nil]; exact hown, Below.refl _ _, ⟨rfl, rfl, rfl, Nat.le_refl _, fun _ _ _ => rfl⟩⟩
        rcases hown.2 with ⟨rfl, _⟩ | ⟨g, cap', cur, rfl, _, _, hnc, _⟩
        · simp [Builtin.append_, run_underlying Try.underlying26, sizeOf, typeInfo, hi0, Builtin.lenOf, Builtin.firstCells]
        · simp [Builtin.append_, run_underlying Try.underlying26, sizeOf, typeInfo, hi0, Builtin.lenOf, Builtin.firstCells, hnc, storeCells]
      | some ad => exact gen ad (fun j u hj => by simp at hj)
    · refine gen ⟨b, off, none⟩ (fun j u hj => ?_)
      have hjl : j < ys.length * 7 := by
        rw [← flat_len7]
        exact (List.getElem?_eq_some_iff.1 hj).1
      have ej : j = 7 * (j / 7) + j % 7 := by omega
      have hq : j / 7 < ys.length := by omega
      have hm : j % 7 < 7 := Nat.mod_lt _ (by decide)
      have ea : (⟨b, off, none⟩ : Addr).add j = ⟨b, off + j, none⟩ := by simp [Addr.add]
      rw [ej, flat7 ys _ _ hq hm, List.getElem?_eq_getElem (by rw [c7_len]; exact hm)] at hj
      rw [ea]
      have h7 := h6 (j / 7) hq (j % 7) hm
      rw [← ej] at h7
      rw [h7]; exact hj
theorem own_apart {w : World} {b b' : Nat} {v kv : Value} {xs : List Ev} {k : List UInt8} (h : OwnE w b v xs) (ho : Own w b' kv k) : kv.ownBlock = none ∨ kv.ownBlock ≠ v.ownBlock := by
  rcases ho.2 with ⟨rfl, _⟩ | ⟨g, cap, cur, hv, _, hw, _⟩
  · exact .inl rfl
  · right
    rcases h.2 with ⟨rfl, _⟩ | ⟨g', cap', cur', hv', _, hw', _⟩
    · rw [hv]; simp [Value.ownBlock]
    · intro e
      rw [hv, hv'] at e
      simp [Value.ownBlock] at e
      subst e
      rw [hw] at hw'
      simp at hw'
end Go.Proofs.Ytoibmjmajbkbcaa

/- Two lists side by side in memory: what a Put of one leaves of the other (skip's; written in part out of S10). -/
namespace Go.Proofs.Ytoibmjmajbkbcaa
open Go.RowKit

/-- A list whose keys lie in blocks of A. -/
def SKx (A : Nat → Prop) (w : World) (base L0 : Nat) (E : List En) (fr : Bool) : Prop := ∃ N, SL w base L0 N (sizE E : Nat) fr ∧ ents N = E ∧ ∀ x ∈ N, ∀ g, x.kv.ownBlock = some g → A g
theorem SKx.sk {A : Nat → Prop} {w : World} {base L0 : Nat} {E : List En} {fr : Bool} (h : SKx A w base L0 E fr) : SK w base L0 E fr := by
  obtain ⟨N, h1, h2, _⟩ := h
  exact ⟨N, h1, h2⟩
theorem SK.x {w : World} {base L0 : Nat} {E : List En} {fr : Bool} (h : SK w base L0 E fr) : SKx (fun g => g < w.heap.size) w base L0 E fr := by
  obtain ⟨N, h1, h2⟩ := h
  refine ⟨N, h1, h2, fun x hx g hg => ?_⟩
  obtain ⟨i, hi, rfl⟩ := List.getElem_of_mem hx
  exact (World.ownsRow.lt (h1.1.ky i hi) g hg).2
theorem SKx.mono {A B : Nat → Prop} {w : World} {base L0 : Nat} {E : List En} {fr : Bool} (h : SKx A w base L0 E fr) (hab : ∀ g, A g → B g) : SKx B w base L0 E fr := by
  obtain ⟨N, h1, h2, h3⟩ := h
  exact ⟨N, h1, h2, fun x hx g hg => hab g (h3 x hx g hg)⟩
theorem SKx.below {A : Nat → Prop} {w w' : World} {base L0 : Nat} {E : List En} {fr : Bool} (h : SKx A w base L0 E fr) (hb : Below w.heap.size w w') : SKx A w' base L0 E fr := by
  obtain ⟨N, h1, h2, h3⟩ := h
  exact ⟨N, h1.below hb, h2, h3⟩
/-- What a list's entries are. -/
theorem SK.good {w : World} {base L0 : Nat} {E : List En} {fr : Bool} (h : SK w base L0 E fr) : srt E ∧ (∀ x ∈ E, 1 ≤ x.1.length ∧ x.1.length ≤ 256 ∧ 0 < x.2.c ∧ x.2.c < 18446744073709551616 ∧ rightB x.2 = true) ∧ E.length ≤ 4096 := by
  obtain ⟨N, h1, rfl⟩ := h
  refine ⟨?_, fun x hx => ?_, ?_⟩
  · unfold srt
    rw [keys_ents]; exact h1.2.so
  · obtain ⟨y, hy, rfl⟩ := List.mem_map.1 hx
    exact ⟨(h1.2.kl y hy).1, (h1.2.kl y hy).2, h1.2.ag y hy⟩
  · simp [ents]; exact h1.2.le
/-- Memory that is neither a row of entries nor the reference's list stands. -/
def Ku (A B : World) : Prop := ∀ (c : Nat) (cs : Array Value) (T : TypeId) (fr : Nat × Nat), T ≠ 36 → T ≠ 28 → A.heap[c]? = some (.cells cs T fr) → B.heap[c]? = some (.cells cs T fr)
theorem Ku.of_below {A B : World} (h : Below A.heap.size A B) : Ku A B := fun c _ _ _ _ _ hc => (h.block c (Array.getElem?_eq_some_iff.1 hc).1).trans hc
theorem Ku.trans {A B C : World} (h : Ku A B) (k : Ku B C) : Ku A C := fun c cs T fr h1 h2 hc => k c cs T fr h1 h2 (h c cs T fr h1 h2 hc)
theorem Ku.set {A B : World} (h : Ku A B) {c0 : Nat} {cs0 : Array Value} {T0 : TypeId} {fr0 : Nat × Nat} (h0 : B.heap[c0]? = some (.cells cs0 T0 fr0)) (hT : T0 = 36 ∨ T0 = 28) (i : Nat) (v : Value) : Ku A (B.setCell ⟨c0, i, none⟩ v) := by
  intro c cs T fr h1 h2 hc
  have hB := h c cs T fr h1 h2 hc
  rw [Below.heap_setCell B ⟨c0, i, none⟩ v c (fun e => ?_)]
  · exact hB
  · have e' : c = c0 := e
    rw [e', h0] at hB
    simp at hB
    rcases hT with hT | hT
    · exact h1 (hB.2.1.symm.trans hT)
    · exact h2 (hB.2.1.symm.trans hT)
/-- A key of one's own, where its block stands. -/
theorem own_via {A B : World} {base : Nat} {v : Value} {l : List UInt8} (h : Own A base v l) (hk : ∀ (c : Nat) (cs : Array Value) (fr : Nat × Nat), v.ownBlock = some c → A.heap[c]? = some (.cells cs 5 fr) → B.heap[c]? = some (.cells cs 5 fr)) : Own B base v l := by
  refine ⟨h.1, ?_⟩
  rcases h.2 with h2 | ⟨g, cap, cur, hv, hg, hw, r⟩
  · exact .inl h2
  · exact .inr ⟨g, cap, cur, hv, hg, hk g _ _ (by rw [hv]; rfl) hw, r⟩
theorem SL.via {A B : World} {base L0 : Nat} {N : List Nd} {sz : Int} {fr : Bool} (h : SL A base L0 N sz fr) (hk : ∀ (c : Nat) (cs : Array Value) (T : TypeId) (q : Nat × Nat), (T = 55 ∨ T = 57) → A.heap[c]? = some (.cells cs T q) → B.heap[c]? = some (.cells cs T q)) (hu : ∀ x ∈ N, ∀ (c : Nat) (cs : Array Value) (q : Nat × Nat), x.kv.ownBlock = some c → A.heap[c]? = some (.cells cs 5 q) → B.heap[c]? = some (.cells cs 5 q)) : SL B base L0 N sz fr :=
  ⟨⟨hk _ _ _ _ (.inr rfl) h.1.hd, fun i hi => hk _ _ _ _ (.inl rfl) (h.1.nd i hi), fun i hi => own_via (h.1.ky i hi) (hu _ (List.getElem_mem hi)), h.1.b0, h.1.bs, h.1.ne⟩, h.2⟩
theorem SKx.ku {P : Nat → Prop} {A B : World} {base L0 : Nat} {E : List En} {fr : Bool} (h : SKx P A base L0 E fr) (hk : Ku A B) : SKx P B base L0 E fr := by
  obtain ⟨N, h1, h2, h3⟩ := h
  refine ⟨N, h1.via (fun c cs T q hT hc => ?_) (fun x hx c cs q _ hc => hk c cs _ q (by decide) (by decide) hc), h2, h3⟩
  rcases hT with rfl | rfl
  · exact hk c cs _ q (by decide) (by decide) hc
  · exact hk c cs _ q (by decide) (by decide) hc
/-- All but a block of bytes stands. -/
structure K1 (g : Nat) (A B : World) : Prop where
  s : A.heap.size = B.heap.size
  k : ∀ c, c ≠ g → B.heap[c]? = A.heap[c]?
theorem K1.refl (g : Nat) (A : World) : K1 g A A := ⟨rfl, fun _ _ => rfl⟩
theorem SKx.k1 {A B : World} {base L0 g : Nat} {E : List En} {fr : Bool} (h : SKx (fun c => c ≠ g) A base L0 E fr) (hk : K1 g A B) {cs : Array Value} {q : Nat × Nat} (hg : A.heap[g]? = some (.cells cs 5 q)) : SKx (fun c => c ≠ g) B base L0 E fr := by
  obtain ⟨N, h1, h2, h3⟩ := h
  refine ⟨N, h1.via (fun c cs' T q' hT hc => ?_) (fun x hx c cs' q' ho hc => (hk.k c (h3 x hx c ho)).trans hc), h2, h3⟩
  rw [hk.k c (fun e => ?_)]
  · exact hc
  · subst e
    rw [hg] at hc
    simp at hc
    rcases hT with rfl | rfl
    · exact absurd hc.2.1 (by decide)
    · exact absurd hc.2.1 (by decide)
/-- The reference's list: its row and its keys are its own. -/
def RL (P : Nat → Prop) (w : World) (base Y : Nat) (E : List En) (f : Bool) : Prop := ∃ v xs, w.heap[Y]? = some (.cells #[v, .bool f] 28) ∧ EOwn w base v xs ∧ xs.map evE = E ∧ base ≤ Y ∧ (∀ x ∈ xs, ∀ g, x.kv.ownBlock = some g → P g) ∧ ∀ g, v.ownBlock = some g → P g
theorem RL.mono {P Q : Nat → Prop} {w : World} {base Y : Nat} {E : List En} {f : Bool} (h : RL P w base Y E f) (hpq : ∀ g, P g → Q g) : RL Q w base Y E f := by
  obtain ⟨v, xs, h1, h2, h3, h4, h5, h6⟩ := h
  exact ⟨v, xs, h1, h2, h3, h4, fun x hx g hg => hpq g (h5 x hx g hg), fun g hg => hpq g (h6 g hg)⟩
theorem RL.lt {P : Nat → Prop} {w : World} {base Y : Nat} {E : List En} {f : Bool} (h : RL P w base Y E f) : RL (fun g => g < w.heap.size) w base Y E f := by
  obtain ⟨v, xs, h1, h2, h3, h4, h5, h6⟩ := h
  exact ⟨v, xs, h1, h2, h3, h4, fun x hx g hg => (World.ownsRow.lt (h2.2 x hx) g hg).2, fun g hg => (World.ownsRow.lt h2.1 g hg).2⟩
theorem eown_via {A B : World} {base : Nat} {v : Value} {xs : List Ev} (h : EOwn A base v xs) (hk : ∀ (c : Nat) (cs : Array Value) (q : Nat × Nat), A.heap[c]? = some (.cells cs 36 q) → B.heap[c]? = some (.cells cs 36 q)) (hu : ∀ x ∈ xs, ∀ (c : Nat) (cs : Array Value) (q : Nat × Nat), x.kv.ownBlock = some c → A.heap[c]? = some (.cells cs 5 q) → B.heap[c]? = some (.cells cs 5 q)) : EOwn B base v xs := by
  refine ⟨⟨h.1.1, ?_⟩, fun x hx => own_via (h.2 x hx) (hu x hx)⟩
  rcases h.1.2 with h2 | ⟨g, cap, cur, hv, hg, hw, r⟩
  · exact .inl h2
  · exact .inr ⟨g, cap, cur, hv, hg, hk g _ _ hw, r⟩
theorem RL.below {P : Nat → Prop} {w w' : World} {base Y : Nat} {E : List En} {f : Bool} (h : RL P w base Y E f) (hb : Below w.heap.size w w') : RL P w' base Y E f := by
  obtain ⟨v, xs, h1, h2, h3, h4, h5, h6⟩ := h
  exact ⟨v, xs, (hb.block _ (Array.getElem?_eq_some_iff.1 h1).1).trans h1, h2.below hb, h3, h4, h5, h6⟩
theorem RL.kt {P : Nat → Prop} {A B : World} {base Y : Nat} {E : List En} {f : Bool} (h : RL P A base Y E f) (hk : Kt A B) : RL P B base Y E f := by
  obtain ⟨v, xs, h1, h2, h3, h4, h5, h6⟩ := h
  exact ⟨v, xs, hk _ _ _ _ (by decide) (by decide) h1, eown_via h2 (fun c cs q hc => hk c cs _ q (by decide) (by decide) hc) (fun x hx c cs q _ hc => hk c cs _ q (by decide) (by decide) hc), h3, h4, h5, h6⟩
theorem RL.k1 {A B : World} {base Y g : Nat} {E : List En} {f : Bool} (h : RL (fun c => c ≠ g) A base Y E f) (hk : K1 g A B) {cs : Array Value} {q : Nat × Nat} (hg : A.heap[g]? = some (.cells cs 5 q)) : RL (fun c => c ≠ g) B base Y E f := by
  obtain ⟨v, xs, h1, h2, h3, h4, h5, h6⟩ := h
  have hne : ∀ c cs' T q', T ≠ 5 → A.heap[c]? = some (.cells cs' T q') → c ≠ g := by
    intro c cs' T q' hT hc e
    subst e
    rw [hg] at hc
    simp at hc
    exact hT hc.2.1.symm
  refine ⟨v, xs, (hk.k _ (hne _ _ _ _ (by decide) h1)).trans h1, eown_via h2 (fun c cs' q' hc => (hk.k _ (hne _ _ _ _ (by decide) hc)).trans hc) (fun x hx c cs' q' ho hc => (hk.k c (h5 x hx c ho)).trans hc), h3, h4, h5, h6⟩
theorem EOwn.row {w : World} {base : Nat} {v : Value} {xs : List Ev} (h : EOwn w base v xs) : OwnE w base v xs := h.1
theorem EOwn.evr {w : World} {base : Nat} {v : Value} {xs : List Ev} (h : EOwn w base v xs) : EvR w xs := fun x hx => (h.2 x hx).reads
theorem freeze_x (A : Nat → Prop) (L0 : Nat) (E : List En) (fr : Bool) (w : World) (base : Nat) (hS : SKx A w base L0 E fr) : Calls Try.prog 12 #[.pointer (some ⟨L0, 0, none⟩)] w fun e w' => e = .returned (.int .i64 (if fr = true then 7 else 0)) ∧ SKx A w' base L0 E true ∧ Below base w w' ∧ Kt w w' := by
  obtain ⟨c, _, _, _⟩ := hS.sk.cells
  have hfz : w.frozen? ⟨L0, 17, none⟩ = false := by obtain ⟨N, h1, _⟩ := hS; simp [World.frozen?, h1.1.hd]
  have HS : Hid (SKx A w base L0 E fr) := hS
  clear hS
  cases hfr : fr
  · rw [hfr] at c
    go_enter Try.func12, Try.ntmps12
    go_wp2_with fail
    go_ret
    obtain ⟨N, h1, h2, h3⟩ := HS.out
    exact ⟨rfl, ⟨N, ⟨h1.1.setFrozen true, h1.2⟩, h2, h3⟩, (Below.refl _ _).setCell h1.1.b0 _, (Kt.of_below (Below.refl _ _)).set h1.1.hd (.inr rfl) _ _⟩
  · rw [hfr] at c HS
    go_enter Try.func12, Try.ntmps12
    go_wp2_with fail
    go_ret
    exact ⟨rfl, HS.out, Below.refl _ _, Kt.of_below (Below.refl _ _)⟩
set_option maxRecDepth 10000 in
theorem put_x (A : Nat → Prop) (L0 : Nat) (E : List En) (fr : Bool) (kv : Value) (k : Ks) (a : Ag) (h : Int) (w : World) (base : Nat) (hbase : base ≤ w.heap.size) (hS : SKx A w base L0 E fr) (hA : ∀ g, w.heap.size ≤ g → A g) (hR : Reads w kv k) (ha : 0 ≤ a.c ∧ a.c < 18446744073709551616) (hlen : E.length < 4096) :
    Calls Try.prog 7 #[.pointer (some ⟨L0, 0, none⟩), env kv a, .int .i64 h] w fun e w' => e = .returned (.int .i64 (mpF fr h k.length a)) ∧ SKx A w' base L0 (if mpF fr h k.length a = 0 then putE E k a else E) fr ∧ Below base w w' ∧ Kt w w' := by
  obtain ⟨N, hSL, rfl, hNA⟩ := hS
  have hlN : N.length < 4096 := by simpa [ents] using hlen
  by_cases hok : mpF fr h k.length a = 0
  · rw [hok, if_pos rfl]
    obtain ⟨m1, m2, m3, m4, m5, m6, m7⟩ := mpF_ok hok
    have hag : 0 < a.c ∧ a.c < 18446744073709551616 ∧ rightB a = true := ⟨by omega, ha.2, m7⟩
    have hsz := hSL.2.sz
    have hpl : plK (keysE (ents N)) k = plK (N.map Nd.k) k := by rw [keys_ents]
    have hle : plK (N.map Nd.k) k ≤ N.length := by have := plK_le (N.map Nd.k) k; simpa using this
    have hEl : (ents N).length = N.length := by simp [ents]
    generalize hi : plK (N.map Nd.k) k = i at *
    have hszb : sizE (ents N) ≤ 4096 * 300 := by
      rw [sizE_ents]
      have : ∀ (M : List Nd), (∀ x ∈ M, x.k.length ≤ 256) → (M.map fun x => x.k.length + 41).sum ≤ M.length * 300 := by
        intro M
        induction M with
        | nil => intro _; simp
        | cons x M ih => intro hM; have h1 := ih (fun y hy => hM y (List.mem_cons_of_mem _ hy)); have h2 := hM x (List.mem_cons_self ..); simp; omega
      have := this N (fun x hx => (hSL.2.kl x hx).2)
      omega
    by_cases hc : ∃ hlt : i < N.length, N[i].k = k
    · obtain ⟨hlt, hk⟩ := hc
      refine (put_merge L0 N _ fr kv k a h w base hbase hSL hR hok ha i hlt hi.symm hk).mono ?_
      rintro e w' ⟨rfl, hs, hb, hkt⟩
      refine ⟨rfl, ⟨N.set i { N[i] with a := mrg N[i].a a }, ⟨?_, ?_⟩, ?_, fun x hx => ?_⟩, hb, hkt⟩
      · have hmap : (N.set i { N[i] with a := mrg N[i].a a }).map hb2 = N.map hb2 := by
          rw [List.map_set]; apply List.ext_getElem
          · simp
          · intro j h1 h2
            rw [List.getElem_set]; split
            · rename_i e; subst e; simp [hb2]
            · rfl
        have hsz2 : sizE (putE (ents N) k a) = sizE (ents N) := by
          rw [putE_merge hlt hi hk]
          have h1 := (sla_merge hSL.2 hlt _ (mrg_ok (hSL.2.ag _ (List.getElem_mem hlt)) hag)).sz
          rw [sizE_ents]; omega
        rw [hsz2, List.length_set]
        exact hs.congrF (fun p j hp _ => (nxF_hb hmap (by simpa using hp) j).symm)
      · have h1 := sla_merge hSL.2 hlt _ (mrg_ok (hSL.2.ag _ (List.getElem_mem hlt)) hag)
        have hsz2 : sizE (putE (ents N) k a) = sizE (ents N) := by
          rw [putE_merge hlt hi hk]
          have h2 := h1.sz
          rw [sizE_ents]; omega
        rw [hsz2]; exact h1
      · exact (putE_merge hlt hi hk a).symm
      · rcases List.mem_or_eq_of_mem_set hx with hx | rfl
        · exact hNA x hx
        · exact hNA N[i] (List.getElem_mem hlt)
    · have hnk : ∀ hlt : i < N.length, N[i].k ≠ k := fun hlt e => hc ⟨hlt, e⟩
      have hnx := nxF_zero hSL.2.ht hle
      obtain ⟨pn, hpn, hhas⟩ : ∃ pn, nxF N i 0 = .pointer pn ∧ ∀ w', Below w.heap.size w w' → Calls Try.prog 21 #[.pointer pn, kv] w' fun e w'' => e = .returned (.bool false) ∧ w'' = w' := by
        by_cases hlt : i < N.length
        · rw [dif_pos hlt] at hnx
          refine ⟨_, hnx, fun w' hb => ?_⟩
          have hn := hSL.1.nd i hlt
          have hbl := (Array.getElem?_eq_some_iff.1 hn).1
          have h1 : w.cell? ⟨N[i].b, 0, none⟩ = some N[i].kv := by simp [World.cell?, hn, ndc]
          have := has_some N[i].b N[i].kv N[i].k kv k w' ((hb.cell (p := ⟨N[i].b, 0, none⟩) hbl).trans h1) ((hSL.1.ky i hlt).reads.below hb) (hR.below hb)
          rw [decide_eq_false (hnk hlt)] at this
          exact this
        · rw [dif_neg hlt] at hnx
          exact ⟨_, hnx, fun w' hb => has_none kv k w' (hR.below hb)⟩
      refine (put_new L0 N _ fr kv k a h w base hbase hSL hR hok i hle hi.symm pn hpn hhas (by omega) ⟨by omega, by omega⟩).mono ?_
      rintro e w' ⟨rfl, ⟨b, kv', hs, hbk⟩, hb, hkt⟩
      have h1 := sla_new hSL.2 hle hi hnk hlN ⟨b, kv', k, a, h.toNat⟩ rfl ⟨by show 1 ≤ h.toNat; omega, by show h.toNat ≤ 8; omega⟩ ⟨m4, m5⟩ hag
      have hsz2 : ((sizE (putE (ents N) k a) : Nat) : Int) = (sizE (ents N) : Nat) + k.length + 41 := by
        rw [putE_new hle hi hnk a b kv' h.toNat, sizE_ents]
        exact h1.sz.symm
      refine ⟨rfl, ⟨_, ⟨?_, ?_⟩, (putE_new hle hi hnk a b kv' h.toNat).symm, fun y hy => ?_⟩, hb, hkt⟩
      · rw [hsz2, insN_len _ _ _ hle]; exact hs
      · rw [hsz2]; exact h1
      · unfold insN at hy
        rcases List.mem_append.1 hy with hy | hy
        · exact hNA y (List.mem_of_mem_take hy)
        · rcases List.mem_cons.1 hy with rfl | hy
          · exact fun g hg => hA g (hbk g hg)
          · exact hNA y (List.mem_of_mem_drop hy)
  · rw [if_neg hok]
    refine (put_no L0 N _ fr kv k a h w base hSL hR hok).mono ?_
    rintro e w' ⟨rfl, hb⟩
    exact ⟨rfl, ⟨N, hSL.below hb, rfl, hNA⟩, hb.mono hbase, Kt.of_below hb⟩
end Go.Proofs.Ytoibmjmajbkbcaa
