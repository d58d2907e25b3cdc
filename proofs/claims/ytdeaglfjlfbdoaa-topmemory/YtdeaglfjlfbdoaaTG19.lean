/- K6 K8 K10, joined. -/
import Derived.Test.YtdeaglfjlfbdoaaTG12
import Derived.Test.YtdeaglfjlfbdoaaTG13
import Derived.Test.YtdeaglfjlfbdoaaTG18
import Derived.Laws.BitsAllLaws
/- Texts of one's own; the contract of key.Part. -/
namespace Go.Proofs.Ytdeaglfjlfbdoaa
open Go.RowKit

theorem infoS : (Try.prog.info? 9).map (fun i => (i.zero, i.size, i.bytes)) = some (some (.string ByteArray.empty), 1, 16) := by kernel_rfl
/-- Texts of one's own: their slice's array was made since base. -/
def SOwn (w : World) (base : Nat) (v : Value) (L : List ByteArray) : Prop := w.ownsRow base 9 1 v L.length (L.map Value.string) ∧ ∀ s ∈ L, s.size ≤ maxLen
theorem SOwn.nil (w : World) (base : Nat) : SOwn w base (.slice none 0 0) [] := ⟨World.ownsRow_nil _ _ _ _, by intro s hs; simp at hs⟩
theorem SOwn.mono {w : World} {base base' : Nat} {v : Value} {l : List ByteArray} (h : SOwn w base v l) (hb : base' ≤ base) : SOwn w base' v l := ⟨own_mono h.1 hb, h.2⟩
theorem SOwn.below {w w' : World} {base : Nat} {v : Value} {l : List ByteArray} (h : SOwn w base v l) (hb : Below w.heap.size w w') : SOwn w' base v l := by
  have hlt := World.ownsRow.lt h.1
  obtain ⟨⟨h1, h2⟩, h3⟩ := h
  refine ⟨⟨h1, ?_⟩, h3⟩
  rcases h2 with h2 | ⟨g, cap, cur, hv, hg, hw, r⟩
  · exact .inl h2
  · exact .inr ⟨g, cap, cur, hv, hg, (hb.block g (hlt g (by rw [hv]; rfl)).2).trans hw, r⟩
theorem SOwn.reads {w : World} {base : Nat} {v : Value} {L : List ByteArray} (h : SOwn w base v L) : SReads w v L := by
  obtain ⟨h, hs⟩ := h
  obtain ⟨h1, h2⟩ := h
  simp at h1
  rcases h2 with ⟨rfl, h0⟩ | ⟨g, cap, cur, rfl, hg, hw, hn, hm, hs1, ht⟩
  · left
    exact ⟨List.length_eq_zero_iff.1 (by omega), none, 0, rfl, fun _ => rfl⟩
  · rcases Nat.eq_zero_or_pos L.length with h0 | h0
    · left; exact ⟨List.length_eq_zero_iff.1 h0, _, cap, by rw [h0], fun h => by cases h⟩
    · right
      have hown : w.ownsRow base 9 1 (.slice (some ⟨g, 0, none⟩) L.length cap) L.length (L.map Value.string) := ⟨by simp, .inr ⟨g, cap, cur, rfl, hg, hw, hn, hm, hs1, ht⟩⟩
      refine ⟨g, 0, cap, rfl, h0, by omega, hm, (hown.lt g rfl).2, fun j hj => ?_, hs⟩
      have := hown.cells (g := g) rfl j (.string L[j]) (by simp [hj])
      have ea : (⟨g, 0, none⟩ : Addr).add j = ⟨g, 0 + j, none⟩ := by simp [Addr.add]; omega
      rw [ea] at this
      exact this
theorem wpList_sapp1 {w0 : World} {ops : Array Oper} {rest : List Oper} {o : Oper} {a : Act} {Q : Exit → Act → World → Prop} {t : TypeId} {y : ByteArray} (hgd : o.guard = none) (s x : Operand)
    (ho : o.op = .call { callee := .builtin .append, args := #[s, x], argTypes := #[34, 34] })
    (base : Nat) (v : Value) (L M : List ByteArray) (hM : M = L ++ [y]) (hy : y.size ≤ maxLen) (hs : a.eval s = v) (hx : a.eval x = .slice (some ⟨w0.heap.size, 0, none⟩) 1 1) (hown : SOwn w0 base v L)
    (hlen : L.length + 1 ≤ 8796093022208) (hbase : base ≤ w0.heap.size)
    (h : ∀ v' w', SOwn w' base v' M → Hid (Below base w0 w') → wpList Try.prog ops Q rest (a.put o.dst v') w') : wpList Try.prog ops Q (o :: rest) a (w0.alloc (.cells #[.string y] t)) := by
  subst hM
  obtain ⟨i0, hi, hz0, hz1, hz2⟩ := info_parts infoS
  refine wpList_append_own (w0.alloc (.cells #[.string y] t)) hgd s x 34 ho base 9 i0 (.string ByteArray.empty) 1 16 Try.underlying34 hi hz0 hz1 hz2 rfl (by decide) v L.length (L.map Value.string) hs (hown.1.alloc _) ⟨w0.heap.size, 0, none⟩ 1 1 [.string y] hx rfl news1 (by intro u hu; simp at hu; subst hu; rfl) (by simp [maxLen]; omega) (by omega) (by simp; omega) ?_
  intro v' w' hown' hgrow _
  refine h v' w' ⟨?_, ?_⟩ (((Below.refl _ _).alloc hbase _).grown hgrow (by simp; omega) (own_block hown.1))
  · rw [List.length_append, List.map_append]; exact hown'
  · intro u hu
    rcases List.mem_append.1 hu with hu | hu
    · exact hown.2 u hu
    · simp at hu; subst hu; exact hy
/-- A part of dimensions. -/
def pt : List ByteArray → Nat → List ByteArray
  | [], _ => []
  | s :: L, m => (if m % 2 = 1 then [s] else []) ++ pt L (m / 2)
theorem pt_snoc (L : List ByteArray) (s : ByteArray) : ∀ m, pt (L ++ [s]) m = pt L m ++ (if m / 2 ^ L.length % 2 = 1 then [s] else []) := by
  induction L with
  | nil => intro m; simp [pt]
  | cons x L ih =>
    intro m
    simp only [List.cons_append, pt, ih, List.length_cons, List.append_assoc]
    have e : m / 2 / 2 ^ L.length = m / 2 ^ (L.length + 1) := by rw [Nat.div_div_eq_div_mul, Nat.pow_succ, Nat.mul_comm 2]
    simp only [e]
theorem pt_len (L : List ByteArray) : ∀ m, (pt L m).length ≤ L.length := by
  induction L with
  | nil => intro m; simp [pt]
  | cons x L ih => intro m; have := ih (m / 2); simp only [pt, List.length_append, List.length_cons]; split <;> simp <;> omega
theorem i64_and_one (a : Nat) (h : a < 9223372036854775808) : bits .and .i64 (a : Int) 1 = ((a % 2 : Nat) : Int) := by
  show IntKind.i64.wrap ((BitVec.ofInt 64 (a : Int) &&& BitVec.ofInt 64 ((1 : Nat) : Int)).toNat : Int) = _
  rw [BitVec.toNat_and, ofInt_u64 a (by omega), ofInt_u64 1 (by omega), Nat.and_one_is_mod]
  simp [IntKind.wrap, IntKind.bits, IntKind.signed]
  omega
theorem shr_min (m k : Nat) (h : m < 9223372036854775808) : m / 2 ^ min k 64 = m / 2 ^ k := by
  rcases Nat.le_total k 64 with h1 | h1
  · rw [Nat.min_eq_left h1]
  · rw [Nat.min_eq_right h1, Nat.div_eq_of_lt (by omega), Nat.div_eq_of_lt (Nat.lt_of_lt_of_le (by omega : m < 2 ^ 64) (Nat.pow_le_pow_right (by decide) h1))]
theorem shr_and (m k : Nat) (h : m < 9223372036854775808) : bits .and .i64 ((m : Int) / 2 ^ min k 64) 1 = ((m / 2 ^ k % 2 : Nat) : Int) := by
  have := i64_and_one (m / 2 ^ min k 64) (Nat.lt_of_le_of_lt (Nat.div_le_self _ _) h)
  rw [shr_min m k h] at this
  rw [← this, ← shr_min m k h]
  push_cast; rfl
end Go.Proofs.Ytdeaglfjlfbdoaa

/- What the fixed calls of layer 6's 'alive' come to: true. -/
namespace Go.Proofs.Ytdeaglfjlfbdoaa
open Go.RowKit

set_option maxRecDepth 100000 in
set_option maxHeartbeats 1000000 in
theorem parted_nil (a : Option Addr) (cap : Nat) (w : World) :
    Calls Try.prog 31 #[.slice a 0 cap] w fun e w' => e = .returned (.tuple #[.slice none 0 0, .slice none 0 0, .bool false]) ∧ w' = w := by
  go_enter Try.func31, Try.ntmps31
  go_wp2_with fail
  go_step3
  go_wp2_with fail
  go_step3
  go_wp2_with fail
  go_loop [0, 5] (fun x y => x = .slice a 0 cap ∧ y = .slice none 0 0) (fun _ _ => 0)
  case atStart => exact ⟨rfl, rfl⟩
  case round =>
    obtain ⟨rfl, rfl⟩ := hrel
    go_wp2_with fail
    go_ret3
    exact ⟨rfl, rfl⟩
set_option maxRecDepth 100000 in
set_option maxHeartbeats 1000000 in
theorem read_nil (a : Option Addr) (cap : Nat) (w : World) :
    Calls Try.prog 13 #[.slice a 0 cap] w fun e w' => e = .returned (.tuple #[.agg #[.slice none 0 0, .int .i64 0, .int .i64 0], .int .i64 40]) ∧ Below w.heap.size w w' := by
  go_enter Try.func13, Try.ntmps13
  go_wp2_with fail
  refine (parted_nil a cap _).mono ?_
  rintro e w1 ⟨rfl, hw⟩
  subst w1
  go_wp2_with fail
  refine bodyPost_ret (v := .tuple #[.agg #[.slice none 0 0, .int .i64 0, .int .i64 0], .int .i64 40]) (by simp [results, Try.results13, go_sem]) rfl ⟨rfl, ?_⟩
  exact (Below.refl _ _).alloc (Nat.le_refl _) _
end Go.Proofs.Ytdeaglfjlfbdoaa

/- The contract of key.parted. -/
namespace Go.Proofs.Ytdeaglfjlfbdoaa
open Go.RowKit

/-- The dimensions at bytes' front, so many more at most, and what stands behind the group. -/
def pdF : Nat → List UInt8 → List ByteArray → Option (List ByteArray × List UInt8)
  | 0, _, _ => none
  | _ + 1, [], _ => none
  | n + 1, x :: r, acc => if x.toNat = 0 then some (acc, r) else if x.toNat = 1 then (if (rtF r [] 0).2.2 = 0 then pdF n (r.drop (rtF r [] 0).2.1) (acc ++ [⟨(rtF r [] 0).1.toArray⟩]) else none) else none
def vlen : Value → Nat
  | .slice _ n _ => n
  | _ => 0
theorem txb_ge (l : List UInt8) : l.length ≤ (txb l).length := by
  induction l with
  | nil => simp
  | cons x l ih => simp only [txb, List.length_append, List.length_cons]; split <;> simp <;> omega
theorem rt_facts {l S : List UInt8} {N : Nat} (h : rtF l [] 0 = (S, N, 0)) : 2 ≤ N ∧ N ≤ l.length ∧ S.length ≤ N ∧ tx S = l.take N := by
  obtain ⟨s, c, h1, h2, h3, h4, h5⟩ := rtF_ok l.length l [] 0 S N (Nat.le_refl _) h
  have e : N = c := by omega
  subst e
  have e2 : S = s := by simpa using h4
  subst e2
  have h6 := congrArg List.length h5
  have h7 := txb_ge S
  unfold tx at h6
  simp at h6
  exact ⟨h2, h3, by omega, h5⟩
set_option maxRecDepth 100000 in
set_option maxHeartbeats 2000000 in
theorem parted_some (v : Value) (l : List UInt8) (hl : l.length ≤ 1000) (w : World) (h : Reads w v l) :
    Calls Try.prog 31 #[v] w fun e w' => (∃ D r vd vr, pdF 5 l [] = some (D, r) ∧ e = .returned (.tuple #[vd, vr, .bool true]) ∧ SOwn w' w.heap.size vd D ∧ Reads w' vr r ∧ Below w.heap.size w w') ∨ (pdF 5 l [] = none ∧ e = .returned (.tuple #[.slice none 0 0, .slice none 0 0, .bool false]) ∧ Below w.heap.size w w') := by
  go_enter Try.func31, Try.ntmps31
  go_wp2_with fail
  go_step3
  go_wp2_with fail
  go_step3
  go_wp2_with fail
  go_loopw [0, 5] (fun x y wr => ∃ (n : Nat) (r : List UInt8) (A : List ByteArray), n ≤ 5 ∧ Hid (A.length = 5 - n) ∧ r.length ≤ 1000 ∧ Hid (pdF 5 l [] = pdF n r A) ∧ Reads w x r ∧ SOwn wr w.heap.size y A ∧ Hid (Below w.heap.size w wr)) (fun _ y _ => 5 - vlen y)
  case atStart => exact ⟨5, l, [], by omega, rfl, hl, rfl, h, SOwn.nil _ _, Below.refl _ _⟩
  case round =>
    obtain ⟨n, r, A, hn, HAL, hrl, HP, HR, HO, HB⟩ := hrel
    obtain ⟨ax, cx, rfl, _⟩ := HR.form
    obtain ⟨ay, cy, rfl, _⟩ := HO.reads.form
    have HRr : Hid (Reads w (.slice ax r.length cx) r) := HR
    have HOo : Hid (SOwn wr w.heap.size (.slice ay A.length cy) A) := HO
    clear HR HO h
    have hAl := HAL.out
    by_cases h0 : r.length = 0
    · have hr : r = [] := List.length_eq_zero_iff.1 h0
      have HN : Hid (pdF 5 l [] = none) := by rw [HP.out, hr]; cases n <;> rfl
      have i0 : ¬ (0 : Int) < (r.length : Int) := by omega
      clear hAl hr
      go_wp2_with fail
      go_ret3
      exact .inr ⟨HN.out, rfl, HB.out⟩
    · by_cases hn0 : n = 0
      · have HN : Hid (pdF 5 l [] = none) := by rw [HP.out, hn0]; rfl
        have i0 : (0 : Int) < (r.length : Int) := by omega
        have i1 : ¬ (A.length : Int) ≤ 4 := by omega
        clear hAl hn0
        go_wp2_with fail
        go_ret3
        exact .inr ⟨HN.out, rfl, HB.out⟩
      · obtain ⟨m, rfl⟩ : ∃ m, n = m + 1 := ⟨n - 1, by omega⟩
        obtain ⟨x, r', rfl⟩ : ∃ x r', r = x :: r' := by cases r with
          | nil => simp at h0
          | cons x r' => exact ⟨x, r', rfl⟩
        obtain ⟨b, off, rfl, hbw, hc⟩ := HRr.out.at 0 (by simp)
        have hcell := (HB.out.cell (p := ⟨b, off + 0, none⟩) hbw).trans hc
        simp only [Nat.add_zero, List.getElem_cons_zero] at hcell
        unfold bc at hcell
        have hxb : x.toNat < 256 := x.toNat_lt
        have HP2 : Hid (pdF 5 l [] = if x.toNat = 0 then some (A, r') else if x.toNat = 1 then (if (rtF r' [] 0).2.2 = 0 then pdF m (r'.drop (rtF r' [] 0).2.1) (A ++ [⟨(rtF r' [] 0).1.toArray⟩]) else none) else none) := HP.out
        have hlr : (x :: r').length = r'.length + 1 := rfl
        have hrl2 : r'.length + 1 ≤ 1000 := hrl
        have HDC : Hid (∀ c, c ≤ r'.length + 1 → (c < cx → Reads w (.slice (some ⟨b, off + c, none⟩) (r'.length + 1 - c) (cx - c)) ((x :: r').drop c)) ∧ (¬ c < cx → (x :: r').drop c = [])) := fun c hc => HRr.out.drop (c := c) hc b off rfl
        have hcap := HRr.out.cap (by simp)
        rw [hlr] at hcap ⊢
        have i0 : (0 : Int) < (r'.length : Int) + 1 := by omega
        have i1 : (A.length : Int) ≤ 4 := by omega
        have i2 : (1 : Int) ≤ (cx : Int) := by omega
        have HD1 : Hid _ := HRr.out.drop (c := 1) (by simp) b off rfl
        clear hc h0 hn0 hAl HP hlr
        by_cases hx0 : x.toNat = 0
        · have j0 : ((x.toNat : Int) == 0) = true := by simpa using hx0
          have HN : Hid (pdF 5 l [] = some (A, r')) := by rw [HP2.out, if_pos hx0]; rfl
          clear HP2
          by_cases hc1 : (cx : Int) = 1
          · have HZ : Hid (r' = []) := by
              have := HD1.out.2 (by omega)
              unfold Hid; simpa using this
            clear hx0 HD1
            go_wp2_with fail
            go_quiet (fail)
            go_wp2_with fail
            rw [Exit.noGoto_ret]
            go_ret3
            refine .inl ⟨A, r', _, _, HN.out, rfl, HOo.out.below (below_drewN (Below.refl _ _) _), ?_, below_drewN HB.out _⟩
            have h0 := HZ.out
            subst h0
            exact reads_nil (fun h => by cases h)
          · have HRR : Hid (Reads w (.slice (some ⟨b, off + 1, none⟩) r'.length (cx - 1)) r') := HD1.out.1 (by omega)
            clear hx0 HD1
            go_wp2_with fail
            go_quiet (fail)
            go_wp2_with fail
            rw [Exit.noGoto_ret]
            go_ret3
            exact .inl ⟨A, r', _, _, HN.out, rfl, HOo.out.below (below_drewN (Below.refl _ _) _), HRR.out.below (below_drewN HB.out _), below_drewN HB.out _⟩
        · have j0 : ((x.toNat : Int) == 0) = false := by simpa using hx0
          by_cases hx1 : x.toNat = 1
          · have j1 : ((x.toNat : Int) == 1) = true := by simp; omega
            by_cases hc1 : (cx : Int) = 1
            · have HZ : Hid (r' = []) := by
                have := HD1.out.2 (by omega)
                unfold Hid; simpa using this
              have HN : Hid (pdF 5 l [] = none) := by
                rw [HP2.out, if_neg hx0, if_pos hx1, HZ.out]; rfl
              clear HP2 HD1 hx0 hx1
              go_wp2_with fail
              refine (readText_any _ r' (by omega) _ (by rw [HZ.out]; exact reads_nil (fun h => by cases h))).mono ?_
              rw [HZ.out, show rtF [] [] 0 = ([], 0, 10) from rfl]
              rintro e w1 ⟨rfl, hb1⟩
              have HB1 : Hid (Below w.heap.size w w1) := HB.out.trans (hb1.mono HB.out.size)
              clear hb1 hcell
              go_wp2_with fail
              rw [Exit.noGoto_ret]
              go_ret3
              exact .inr ⟨HN.out, rfl, HB1.out⟩
            · have HRR : Hid (Reads w (.slice (some ⟨b, off + 1, none⟩) r'.length (cx - 1)) r') := HD1.out.1 (by omega)
              have HP3 : Hid (pdF 5 l [] = if (rtF r' [] 0).2.2 = 0 then pdF m (r'.drop (rtF r' [] 0).2.1) (A ++ [⟨(rtF r' [] 0).1.toArray⟩]) else none) := by
                rw [HP2.out, if_neg hx0, if_pos hx1]; rfl
              clear HP2 HD1 hx0 hx1
              go_wp2_with fail
              refine (readText_any _ r' (by omega) _ (HRR.out.below HB.out)).mono ?_
              obtain ⟨q, hq⟩ := hid_ex (rtF r' [] 0)
              rw [← hq.out] at HP3 ⊢
              have HF : Hid (q.2.2 = 0 → 2 ≤ q.2.1 ∧ q.2.1 ≤ r'.length ∧ q.1.length ≤ q.2.1) := by
                intro h
                have := rt_facts (l := r') (S := q.1) (N := q.2.1) (by rw [← hq.out, ← h])
                exact ⟨this.1, this.2.1, this.2.2.1⟩
              obtain ⟨S, N, E⟩ := q
              simp only at HP3 HF ⊢
              rintro e w1 ⟨rfl, hb1⟩
              have HB1 : Hid (Below w.heap.size w w1) := HB.out.trans (hb1.mono HB.out.size)
              have HO1 : SOwn w1 w.heap.size (.slice ay A.length cy) A := HOo.out.below hb1
              clear hb1 hcell hq HOo HB
              by_cases hE : E = 0
              · subst hE
                obtain ⟨f1, f2, f3⟩ := HF.out rfl
                have HP4 : Hid (pdF 5 l [] = pdF m (r'.drop N) (A ++ [⟨S.toArray⟩])) := by rw [HP3.out, if_pos rfl]; rfl
                obtain ⟨A1, HA1⟩ := hid_ex (A ++ [(⟨S.toArray⟩ : ByteArray)])
                have hys : (⟨S.toArray⟩ : ByteArray).size ≤ maxLen := by unfold maxLen; show S.toArray.size ≤ _; simp; omega
                have hs1 := HB1.out.size
                clear HP3 HF
                go_wp2_with (at_builtin; refine wpList_sapp1 rfl _ _ rfl w.heap.size _ A A1 HA1.out hys rfl rfl HO1 (by omega) hs1 ?_)
                intro v2 w2 HO2 hb2
                have HB2 : Hid (Below w.heap.size w w2) := HB1.out.trans hb2.out
                obtain ⟨a2, c2, rfl, _⟩ := HO2.reads.form
                have HA1l : Hid (A1.length = A.length + 1) := by rw [HA1.out]; simp [Hid]
                clear hb2 HO1 HB1 hs1
                have k1 : 1 + (N : Int) ≤ (r'.length : Int) + 1 := by omega
                have k2 : 1 + (N : Int) ≤ (cx : Int) := by omega
                have hdN : (x :: r').drop (1 + N) = r'.drop N := by rw [Nat.add_comm]; rfl
                have HDN : Hid _ := HDC.out (1 + N) (by omega)
                rw [hdN] at HDN
                have HLN : Hid ((r'.drop N).length ≤ 1000) := by unfold Hid; simp; omega
                have HAL2 : Hid (A1.length = 5 - m) := by have := HAL.out; have := HA1l.out; unfold Hid; omega
                rw [← HA1.out] at HP4
                by_cases hc2 : (cx : Int) = 1 + (N : Int)
                · have HZ : Hid (r'.drop N = []) := HDN.out.2 (by omega)
                  have HRN : Reads w (.slice (some ⟨b, off, none⟩) (r'.length + 1 - (1 + N)) (cx - (1 + N))) (r'.drop N) := by
                    rw [HZ.out]
                    have : r'.length + 1 - (1 + N) = 0 := by
                      have := congrArg List.length HZ.out
                      simp at this; omega
                    rw [this]
                    exact reads_nil (fun h => by cases h)
                  clear HDN hdN HZ
                  go_wp2_with fail
                  go_roundw
                  case rel => exact ⟨m, r'.drop N, A1, by omega, HAL2, HLN.out, HP4, HRN, HO2, HB2⟩
                  case measure =>
                    have := HA1l.out; have := HAL.out
                    simp [vlen]; omega
                · have HRN : Reads w (.slice (some ⟨b, off + (1 + N), none⟩) (r'.length + 1 - (1 + N)) (cx - (1 + N))) (r'.drop N) := HDN.out.1 (by omega)
                  clear HDN hdN
                  go_wp2_with fail
                  go_roundw
                  case rel => exact ⟨m, r'.drop N, A1, by omega, HAL2, HLN.out, HP4, HRN, HO2, HB2⟩
                  case measure =>
                    have := HA1l.out; have := HAL.out
                    simp [vlen]; omega
              · have HN : Hid (pdF 5 l [] = none) := by rw [HP3.out, if_neg hE]; rfl
                have jE : (E == 0) = false := by simpa using hE
                clear HP3 HF hE
                go_wp2_with fail
                rw [Exit.noGoto_ret]
                go_ret3
                exact .inr ⟨HN.out, rfl, HB1.out⟩
          · have j1 : ((x.toNat : Int) == 1) = false := by simp; omega
            have HN : Hid (pdF 5 l [] = none) := by rw [HP2.out, if_neg hx0, if_neg hx1]; rfl
            clear HP2 HD1 hx0 hx1
            go_wp2_with fail
            rw [Exit.noGoto_ret]
            go_ret3
            exact .inr ⟨HN.out, rfl, HB.out⟩
end Go.Proofs.Ytdeaglfjlfbdoaa
