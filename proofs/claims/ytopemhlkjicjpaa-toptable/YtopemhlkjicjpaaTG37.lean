/- KP0 TP2, joined. -/
import Derived.Test.YtopemhlkjicjpaaTG1
import Derived.Test.YtopemhlkjicjpaaTG34
import Derived.Test.YtopemhlkjicjpaaTG35
import Derived.Test.YtopemhlkjicjpaaTG36
/- Blocks of some types stand. -/
namespace Go.Proofs.Ytopemhlkjicjpaa
open Go.RowKit

/-- Blocks of these types stand. -/
def KpT (S : TypeId → Prop) (A B : World) : Prop := ∀ (c : Nat) (cs : Array Value) (T : TypeId) (fr : Nat × Nat), S T → A.heap[c]? = some (.cells cs T fr) → B.heap[c]? = some (.cells cs T fr)
theorem KpT.of_below {S : TypeId → Prop} {A B : World} (h : Below A.heap.size A B) : KpT S A B := fun c _ _ _ _ hc => (h.block c (Array.getElem?_eq_some_iff.1 hc).1).trans hc
theorem KpT.trans {S : TypeId → Prop} {A B C : World} (h : KpT S A B) (k : KpT S B C) : KpT S A C := fun c cs T fr hs hc => k c cs T fr hs (h c cs T fr hs hc)
theorem KpT.grown {S : TypeId → Prop} {A B : World} {base : Nat} {e : TypeId} {size : Nat} {v : Value} {n : Nat} {xs : List Value} (h : A.ownsRow base e size v n xs) (hg : A.grownBy B v.ownBlock) (he : ¬ S e) : KpT S A B := by
  intro c cs T fr hs hc
  rw [hg.block c (Array.getElem?_eq_some_iff.1 hc).1 ?_]
  · exact hc
  · intro q
    rcases h.2 with ⟨rfl, _⟩ | ⟨g, cap, cur, rfl, _, hgb, _⟩
    · simp [Value.ownBlock] at q
    · obtain rfl : c = g := by simpa [Value.ownBlock] using q
      rw [hc] at hgb
      simp at hgb
      exact he (hgb.2.1 ▸ hs)
theorem own_kpT {S : TypeId → Prop} {A B : World} {base : Nat} {v : Value} {l : List UInt8} (h : Own A base v l) (hk : KpT S A B) (h8 : S 5) : Own B base v l := by
  refine ⟨h.1, ?_⟩
  rcases h.2 with q | ⟨g, cap, cur, hv, hg, hw, r⟩
  · exact .inl q
  · exact .inr ⟨g, cap, cur, hv, hg, hk _ _ _ _ h8 hw, r⟩
theorem KpT.set {A : World} {base : Nat} {e : TypeId} {n cap m g i : Nat} {u : Value} {xs : List Value} (h : A.ownsRow base e 1 (.slice (some ⟨g, 0, none⟩) n cap) m xs) : KpT (fun T => T ≠ e) A (A.setCell ⟨g, i, none⟩ u) := by
  intro c cs T fr hs hc
  by_cases q : c = g
  · subst q
    exfalso
    rcases h.2 with ⟨q, _⟩ | ⟨g', cap', cur, hv, _, hgb, _⟩
    · cases q
    · simp only [Value.slice.injEq, Option.some.injEq, Addr.mk.injEq, and_true] at hv
      obtain ⟨rfl, _⟩ := hv
      rw [hc] at hgb
      simp at hgb
      exact hs hgb.2.1
  · rw [Go.heap_setCell_other _ _ _ _ q]; exact hc
end Go.Proofs.Ytopemhlkjicjpaa

/- TopTable: what stands while numbers are stored; alive05. -/
namespace Go.Proofs.Ytopemhlkjicjpaa
open Go.RowKit

theorem SK.kpT {S : TypeId → Prop} {A B : World} {base L0 : Nat} {E : List En} {fr : Bool} (h : SK A base L0 E fr) (hk : KpT S A B) (h8 : S 5) (hn : S 55) (hl : S 57) : SK B base L0 E fr := by
  obtain ⟨N, ⟨h1, h2⟩, rfl⟩ := h
  exact ⟨N, ⟨⟨hk _ _ _ _ hl h1.hd, fun i hi => hk _ _ _ _ hn (h1.nd i hi), fun i hi => own_kpT (h1.ky i hi) hk h8, h1.b0, h1.bs, h1.ne⟩, h2⟩, rfl⟩
theorem Tb.kpS {S : TypeId → Prop} {w W : World} {lo B : Nat} {l : List Et} (h : Tb w lo B l) (hk : KpT S w W) (h8 : S 5) (hp : S 78) (ht : S 89) (hf : S 125) : Tb W lo B l := by
  obtain ⟨h1, h2, h3, h4, g, fv, h5, h6, ⟨cs, t1, t2, t3⟩, ⟨B2, g2, cap, f1, f2, f3, f4, f5⟩⟩ := h
  refine ⟨h1, h2, h3, h4, g, fv, hk _ _ _ _ ht h5, h6, ⟨cs, hk _ _ _ _ hp t1, t2, fun j hj => ?_⟩, ⟨B2, g2, cap, f1, f2, hk _ _ _ _ hf f3, own_kpT f4 hk h8, f5⟩⟩
  obtain ⟨kv, vv, k1, k2, k3, k4⟩ := t3 j hj
  exact ⟨kv, vv, k1, k2, own_kpT k3 hk h8, own_kpT k4 hk h8⟩
/-- A block's cells are stored anew. -/
theorem stW_kp {w W : World} {g : Nat} {b0 : Array Value} {T : TypeId} {vs : List Value} (h : StW w W g 0 b0 T vs) (hb : w.heap[g]? = some (.cells b0 T)) : KpT (fun U => U ≠ T) w W := by
  intro c cs U fr hU hc
  by_cases e : c = g
  · subst e
    rw [hb] at hc
    simp at hc
    exact absurd hc.2.1.symm hU
  · rw [h.o c e]; exact hc
theorem hgt8' : ∀ n : Fin 256, 1 ≤ wrap64 (1 + wrap64 (bits .and .u8 (n.val : Int) 7)) ∧ wrap64 (1 + wrap64 (bits .and .u8 (n.val : Int) 7)) ≤ 8 := by decide +kernel
theorem hgt8 (x : UInt8) : 1 ≤ wrap64 (1 + wrap64 (bits .and .u8 (x.toNat : Int) 7)) ∧ wrap64 (1 + wrap64 (bits .and .u8 (x.toNat : Int) 7)) ≤ 8 := hgt8' ⟨x.toNat, UInt8.toNat_lt x⟩
theorem hgtv (x : UInt8) : ∃ n : Int, wrap64 (1 + wrap64 (bits .and .u8 (x.toNat : Int) 7)) = n ∧ 1 ≤ n ∧ n ≤ 8 := ⟨_, rfl, hgt8 x⟩
/-- The table's Get, in the list's words. -/
theorem tgetE_any {w : World} {lo B base L0 : Nat} {E : List En} {fr : Bool} (h : Tb w lo B (E.map nzE)) {w0 : World} (hS : SK w0 base L0 E fr) (kv : Value) (key : List UInt8) (hR : Reads w kv key) :
    Calls Try.prog 15 #[.pointer (some ⟨B, 0, none⟩), kv] w fun e w' => e = .returned (.tuple #[agv ((gtE E key).getD agZ), .bool (gtE E key).isSome]) ∧ Below w.heap.size w w' := by
  refine (tget_any h kv key hR).mono ?_
  rintro e w' ⟨rfl, hb, _⟩
  refine ⟨?_, hb⟩
  rw [gt_same hS]
  cases gtE E key with
  | none => rfl
  | some a => show Ending.returned (.tuple #[agV (nz a), .bool true]) = _; rw [agV_nz]; rfl
theorem gtE_my {w : World} {base L0 : Nat} {E : List En} {fr : Bool} (hS : SK w base L0 E fr) {key : List UInt8} (h : (gtE E key).isSome = true) : tmyF (E.map nzE) key = true := by
  have hg := gt_same hS key
  have h2 : (gtT (E.map nzE) key).isSome = true := by rw [hg]; cases hq : gtE E key with | none => rw [hq] at h; cases h | some a => rfl
  unfold gtT at h2
  by_cases hm : tmyF (E.map nzE) key = false
  · rw [if_pos hm] at h2; cases h2
  · simpa using hm
set_option maxRecDepth 100000 in
set_option maxHeartbeats 2000000 in
theorem alive05_any (w : World) : Calls Try.prog 6 #[] w fun e w' => e = .returned (.bool true) ∧ Below w.heap.size w w' := by
  go_enter Try.func6, Try.ntmps6
  go_wp2_with fail
  refine (twrite_nil w).mono ?_
  rintro e w1 ⟨v1, rfl, ho1, hb1⟩
  have HB1 : Hid (Below w.heap.size w w1) := hb1
  have hOp := topen_e42 v1 w1 ho1.reads
  obtain ⟨a1, c1, hv1, _⟩ := ho1.form
  subst hv1
  have e4 : (frm [] ++ frm [6, 0] ++ frm [0, 0, 0, 0, 0, 0, 0, 0, 0, 0, 0, 0, 0, 0, 0, 0]).length = 42 := e42_len
  rw [e4] at hOp ⊢
  have HOp : Hid (Calls Try.prog 11 #[.slice a1 42 c1] w1 _) := hOp
  clear ho1 hb1 hOp e4
  go_wp2_with fail
  refine HOp.out.mono ?_
  clear HOp
  rintro e w2 ⟨B, fv, rfl, hte, hb2⟩
  have HB2 : Hid (Below w.heap.size w w2) := HB1.out.trans (hb2.mono HB1.out.size)
  have hnn : (decide (some (⟨B, 0, none⟩ : Addr) = none)) = false := by simp
  clear hte hb2
  go_wp2_with fail
  refine (new_anyS w2).mono ?_
  rintro e w3 ⟨L0, rfl, _, hb3⟩
  have HB3 : Hid (Below w.heap.size w w3) := HB2.out.trans (hb3.mono HB2.out.size)
  have hnm : (decide (some (⟨L0, 0, none⟩ : Addr) = none)) = false := by simp
  clear hb3
  go_wp2_with fail
  go_ret
  exact ⟨rfl, HB3.out⟩
end Go.Proofs.Ytopemhlkjicjpaa
