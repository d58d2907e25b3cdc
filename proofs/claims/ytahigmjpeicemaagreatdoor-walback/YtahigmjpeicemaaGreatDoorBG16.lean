/- WR2 K6, joined. -/
import Derived.Test.YtahigmjpeicemaaGreatDoorBG4
import Derived.Test.YtahigmjpeicemaaGreatDoorBG15
import Derived.Laws.BitsAllLaws
/- law12's Great and As. -/
namespace Go.Proofs.YtahigmjpeicemaaGreatDoor
open Go.RowKit Go.Shelf

set_option maxRecDepth 100000 in
theorem as_any (r : Rc) (w : World) (h : RcOk w r) : Calls Tryz.prog 18 #[r.val] w fun e w' => e = .returned r.val ∧ Below w.heap.size w w' := by
  obtain ⟨a, cap, hv, _⟩ := h.f.form
  unfold Rc.val
  rw [hv]
  clear h hv
  go_enter Tryz.func18, Tryz.ntmps18
  go_wp2_with fail
  exact bodyPost_ret (v := .agg #[.slice a r.fs.length cap, .int .i64 r.m]) (by simp [results, Tryz.results18, go_sem]) rfl ⟨rfl, ((((Below.refl _ _).alloc (Nat.le_refl _) _).alloc (by simp) _))⟩
def GrPost (w : World) (e : Ending) (w' : World) : Prop := ∃ g, e = .returned (.bool g) ∧ Below w.heap.size w w'
set_option maxRecDepth 100000 in
set_option maxHeartbeats 2000000 in
theorem great_any (r : Rc) (w : World) (h : RcOk w r) : Calls Tryz.prog 16 #[r.val] w (GrPost w) := by
  obtain ⟨a, cap, hv, hl1, hl2⟩ := h.f.form
  unfold maxLen at hl2
  have HB : Hid (Below w.heap.size w (w.alloc (.cells #[.slice a r.fs.length cap, .int .i64 r.m] 43))) := (Below.refl _ _).alloc (Nat.le_refl _) _
  have HF : Hid (FReads (w.alloc (.cells #[.slice a r.fs.length cap, .int .i64 r.m] 43)) (.slice a r.fs.length cap) r.fs) := by
    have := h.f.below HB.out
    rw [hv] at this
    exact this
  unfold Rc.val
  rw [hv]
  clear hv h
  obtain ⟨rv, fs, m⟩ := r
  simp only at *
  by_cases h40 : (40 : Int) < (fs.length : Int)
  · go_enter Tryz.func16, Tryz.ntmps16
    go_wp2_with fail
    go_ret
    exact ⟨_, rfl, HB.out⟩
  · go_enter Tryz.func16, Tryz.ntmps16
    go_wp2_with fail
    go_loop [3] (fun i => ∃ k : Nat, k ≤ fs.length ∧ i = .int .i64 (k : Int)) (fun i => fs.length - (intOf i).toNat)
    case atStart => exact ⟨0, by omega, rfl⟩
    case round =>
      obtain ⟨k, hk, rfl⟩ := hrel
      by_cases hlt : k < fs.length
      · obtain ⟨b, off, rfl, hb⟩ := HF.out.ptr (by omega)
        obtain ⟨f, Hf⟩ := hid_ex fs[k]
        obtain ⟨d0, d1, d2, hfr⟩ := HF.out.three hlt f Hf.out
        obtain ⟨fa, fcp, hfv, hfm⟩ := hfr.r.form
        unfold maxLen at hfm
        rw [hfv] at d0
        have HR : Hid (SReads (w.alloc (.cells #[.slice (some ⟨b, off, none⟩) fs.length cap, .int .i64 m] 43)) (.slice fa f.D.length fcp) f.D) := by rw [← hfv]; exact hfr.r
        clear hfr hfv d1 d2
        by_cases h8 : (8 : Int) < (f.D.length : Int)
        · go_wp2_with fail
          go_ret
          exact ⟨_, rfl, HB.out⟩
        · go_wp2_with fail
          go_loop [4] (fun i => ∃ j : Nat, j ≤ f.D.length ∧ i = .int .i64 (j : Int)) (fun i => f.D.length - (intOf i).toNat)
          case atStart => exact ⟨0, by omega, rfl⟩
          case round =>
            obtain ⟨j, hj, rfl⟩ := hrel
            by_cases hjl : j < f.D.length
            · obtain ⟨b3, o3, rfl, _, hs⟩ := HR.out.at j hjl
              have hsz := HR.out.size _ (List.getElem_mem hjl)
              unfold maxLen at hsz
              generalize f.D[j] = s at *
              by_cases h100 : (100 : Int) < (s.size : Int)
              · go_wp2_with fail
                go_ret
                exact ⟨_, rfl, HB.out⟩
              · go_wp2_with fail
                go_round
                case rel => exact ⟨j + 1, by omega, by go_num⟩
                case measure => simp [intOf]; omega
            · go_wp2_with fail
              go_round
              case rel => exact ⟨k + 1, by omega, by go_num⟩
              case measure => simp [intOf]; omega
      · go_wp2_with fail
        go_ret
        exact ⟨_, rfl, HB.out⟩
end Go.Proofs.YtahigmjpeicemaaGreatDoor

/- Texts of one's own; the contract of key.Part. -/
namespace Go.Proofs.YtahigmjpeicemaaGreatDoor
open Go.RowKit

theorem infoS : (Tryz.prog.info? 9).map (fun i => (i.zero, i.size, i.bytes)) = some (some (.string ByteArray.empty), 1, 16) := by kernel_rfl
/-- Texts of one's own: their slice's array was made since base. -/
def SOwn (w : World) (base : Nat) (v : Value) (L : List ByteArray) : Prop := w.ownsRow base 9 1 v L.length (L.map Value.string) ∧ ∀ s ∈ L, s.size ≤ maxLen
theorem SOwn.nil (w : World) (base : Nat) : SOwn w base (.slice none 0 0) [] := ⟨World.ownsRow_nil _ _ _ _, by intro s hs; simp at hs⟩
theorem SOwn.mono {w : World} {base base' : Nat} {v : Value} {l : List ByteArray} (h : SOwn w base v l) (hb : base' ≤ base) : SOwn w base' v l := ⟨own_mono h.1 hb, h.2⟩
theorem SOwn.below {w w' : World} {base : Nat} {v : Value} {l : List ByteArray} (h : SOwn w base v l) (hb : Below w.heap.size w w') : SOwn w' base v l := by
  have hlt := World.ownsRow.lt h.1
  obtain ⟨⟨h1, h2⟩, h3⟩ := h
  refine ⟨⟨h1, ?_⟩, h3⟩
  rcases h2 with h2 | ⟨g, cap, cur, hv, hg, hw, r⟩
  · exact .inl h2
  · exact .inr ⟨g, cap, cur, hv, hg, (hb.block g (hlt g (by rw [hv]; rfl)).2).trans hw, r⟩
theorem SOwn.reads {w : World} {base : Nat} {v : Value} {L : List ByteArray} (h : SOwn w base v L) : SReads w v L := by
  obtain ⟨h, hs⟩ := h
  obtain ⟨h1, h2⟩ := h
  simp at h1
  rcases h2 with ⟨rfl, h0⟩ | ⟨g, cap, cur, rfl, hg, hw, hn, hm, hs1, ht⟩
  · left
    exact ⟨List.length_eq_zero_iff.1 (by omega), none, 0, rfl, fun _ => rfl⟩
  · rcases Nat.eq_zero_or_pos L.length with h0 | h0
    · left; exact ⟨List.length_eq_zero_iff.1 h0, _, cap, by rw [h0], fun h => by cases h⟩
    · right
      have hown : w.ownsRow base 9 1 (.slice (some ⟨g, 0, none⟩) L.length cap) L.length (L.map Value.string) := ⟨by simp, .inr ⟨g, cap, cur, rfl, hg, hw, hn, hm, hs1, ht⟩⟩
      refine ⟨g, 0, cap, rfl, h0, by omega, hm, (hown.lt g rfl).2, fun j hj => ?_, hs⟩
      have := hown.cells (g := g) rfl j (.string L[j]) (by simp [hj])
      have ea : (⟨g, 0, none⟩ : Addr).add j = ⟨g, 0 + j, none⟩ := by simp [Addr.add]; omega
      rw [ea] at this
      exact this
theorem wpList_sapp1 {w0 : World} {ops : Array Oper} {rest : List Oper} {o : Oper} {a : Act} {Q : Exit → Act → World → Prop} {t : TypeId} {y : ByteArray} (hgd : o.guard = none) (s x : Operand)
    (ho : o.op = .call { callee := .builtin .append, args := #[s, x], argTypes := #[38, 38] })
    (base : Nat) (v : Value) (L M : List ByteArray) (hM : M = L ++ [y]) (hy : y.size ≤ maxLen) (hs : a.eval s = v) (hx : a.eval x = .slice (some ⟨w0.heap.size, 0, none⟩) 1 1) (hown : SOwn w0 base v L)
    (hlen : L.length + 1 ≤ 8796093022208) (hbase : base ≤ w0.heap.size)
    (h : ∀ v' w', SOwn w' base v' M → Hid (Below base w0 w') → wpList Tryz.prog ops Q rest (a.put o.dst v') w') : wpList Tryz.prog ops Q (o :: rest) a (w0.alloc (.cells #[.string y] t)) := by
  subst hM
  obtain ⟨i0, hi, hz0, hz1, hz2⟩ := info_parts infoS
  refine wpList_append_own (w0.alloc (.cells #[.string y] t)) hgd s x 38 ho base 9 i0 (.string ByteArray.empty) 1 16 Tryz.underlying38 hi hz0 hz1 hz2 rfl (by decide) v L.length (L.map Value.string) hs (hown.1.alloc _) ⟨w0.heap.size, 0, none⟩ 1 1 [.string y] hx rfl news1 (by intro u hu; simp at hu; subst hu; rfl) (by simp [maxLen]; omega) (by omega) (by simp; omega) ?_
  intro v' w' hown' hgrow _
  refine h v' w' ⟨?_, ?_⟩ (((Below.refl _ _).alloc hbase _).grown hgrow (by simp; omega) (own_block hown.1))
  · rw [List.length_append, List.map_append]; exact hown'
  · intro u hu
    rcases List.mem_append.1 hu with hu | hu
    · exact hown.2 u hu
    · simp at hu; subst hu; exact hy
/-- A part of dimensions. -/
def pt : List ByteArray → Nat → List ByteArray
  | [], _ => []
  | s :: L, m => (if m % 2 = 1 then [s] else []) ++ pt L (m / 2)
theorem pt_snoc (L : List ByteArray) (s : ByteArray) : ∀ m, pt (L ++ [s]) m = pt L m ++ (if m / 2 ^ L.length % 2 = 1 then [s] else []) := by
  induction L with
  | nil => intro m; simp [pt]
  | cons x L ih =>
    intro m
    simp only [List.cons_append, pt, ih, List.length_cons, List.append_assoc]
    have e : m / 2 / 2 ^ L.length = m / 2 ^ (L.length + 1) := by rw [Nat.div_div_eq_div_mul, Nat.pow_succ, Nat.mul_comm 2]
    simp only [e]
theorem pt_len (L : List ByteArray) : ∀ m, (pt L m).length ≤ L.length := by
  induction L with
  | nil => intro m; simp [pt]
  | cons x L ih => intro m; have := ih (m / 2); simp only [pt, List.length_append, List.length_cons]; split <;> simp <;> omega
theorem i64_and_one (a : Nat) (h : a < 9223372036854775808) : bits .and .i64 (a : Int) 1 = ((a % 2 : Nat) : Int) := by
  show IntKind.i64.wrap ((BitVec.ofInt 64 (a : Int) &&& BitVec.ofInt 64 ((1 : Nat) : Int)).toNat : Int) = _
  rw [BitVec.toNat_and, ofInt_u64 a (by omega), ofInt_u64 1 (by omega), Nat.and_one_is_mod]
  simp [IntKind.wrap, IntKind.bits, IntKind.signed]
  omega
theorem shr_min (m k : Nat) (h : m < 9223372036854775808) : m / 2 ^ min k 64 = m / 2 ^ k := by
  rcases Nat.le_total k 64 with h1 | h1
  · rw [Nat.min_eq_left h1]
  · rw [Nat.min_eq_right h1, Nat.div_eq_of_lt (by omega), Nat.div_eq_of_lt (Nat.lt_of_lt_of_le (by omega : m < 2 ^ 64) (Nat.pow_le_pow_right (by decide) h1))]
theorem shr_and (m k : Nat) (h : m < 9223372036854775808) : bits .and .i64 ((m : Int) / 2 ^ min k 64) 1 = ((m / 2 ^ k % 2 : Nat) : Int) := by
  have := i64_and_one (m / 2 ^ min k 64) (Nat.lt_of_le_of_lt (Nat.div_le_self _ _) h)
  rw [shr_min m k h] at this
  rw [← this, ← shr_min m k h]
  push_cast; rfl
end Go.Proofs.YtahigmjpeicemaaGreatDoor
