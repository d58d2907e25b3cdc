/- The least entry is forgotten. -/
import Derived.Test.YtdamlnpfpfpeeaaMG4
import Derived.Test.YtdamlnpfpfpeeaaSS
namespace Go.Proofs.Ytdamlnpfpfpeeaa
open Go.RowKit

theorem sizeEn (w : World) : (sizeOf 36).run Try.prog w = .ok 7 w := by
  simp [sizeOf]
  rfl
theorem elemEn : Try.prog.elem 25 = 36 := by kernel_rfl
theorem undEn : Try.prog.underlying 25 = some (.slice (Try.prog.elem 25)) := by rw [elemEn]; exact Try.underlying25
theorem sizePt (w : World) : (sizeOf 53).run Try.prog w = .ok 2 w := by
  simp [sizeOf]
  rfl
theorem elemPt : Try.prog.elem 48 = 53 := by kernel_rfl
theorem undPt : Try.prog.underlying 48 = some (.slice (Try.prog.elem 48)) := by rw [elemPt]; exact Try.underlying48
/-- xs[1:] -/
theorem tail_sl (g o n cap : Nat) (hn : 0 < n) (hc : n ≤ cap) : ∃ a', (∀ w', (Instr.slice 25 (.slice (some ⟨g, o, none⟩) n cap) (some (.int .i64 1)) none none).run Try.prog w' = .ok (.slice a' (n - 1) (cap - 1)) w') ∧ (1 < n → a' = some ⟨g, o + 7, none⟩) := by
  refine ⟨(if cap = 1 then some ⟨g, o, none⟩ else (some (⟨g, o, none⟩ : Addr)).map (·.add (1 * 7))), fun w' => ?_, fun h => ?_⟩
  · rw [run_slice_l _ _ _ _ _ undEn _ _ (by omega) (by omega), elemEn, sizeEn]
    rfl
  · rw [if_neg (by omega)]
    simp [Addr.add]
/-- xs[:m] of parts -/
theorem front_sl (g m n cap : Nat) (hn : m ≤ n) (hc : n ≤ cap) : ∀ w', (Instr.slice 48 (.slice (some ⟨g, 0, none⟩) n cap) none (some (.int .i64 (m : Int))) none).run Try.prog w' = .ok (.slice (some ⟨g, 0, none⟩) m cap) w' := by
  intro w'
  rw [run_slice_h _ _ _ _ _ undPt _ _ (by omega) (by omega), elemPt, sizePt]
  simp only [Result.andThen, Go.sliced, Int.toNat_natCast, Nat.sub_zero]
  split <;> simp [Addr.add]
theorem row_heap {A B : World} {lo sz g n cap : Nat} {T : TypeId} {xs : List Value} (h : A.ownsRow lo T sz (.slice (some ⟨g, 0, none⟩) n cap) n xs) (hb : B.heap[g]? = A.heap[g]?) : B.ownsRow lo T sz (.slice (some ⟨g, 0, none⟩) n cap) n xs := by
  obtain ⟨h1, h2⟩ := h
  refine ⟨h1, ?_⟩
  rcases h2 with ⟨h2, _⟩ | ⟨g', cap', cur, hv, hg, hw, r⟩
  · simp at h2
  · have hv' := hv
    simp at hv'
    obtain ⟨rfl, rfl⟩ := hv'
    exact .inr ⟨g, cap, cur, rfl, hg, hb.trans hw, r⟩
theorem row_take {A : World} {lo g n cap : Nat} {T : TypeId} {xs : List Value} (h : A.ownsRow lo T 2 (.slice (some ⟨g, 0, none⟩) n cap) n xs) (m : Nat) (hm : m ≤ n) : A.ownsRow lo T 2 (.slice (some ⟨g, 0, none⟩) m cap) m (xs.take (m * 2)) := by
  obtain ⟨h1, h2⟩ := h
  refine ⟨by simp; omega, ?_⟩
  rcases h2 with ⟨h2, _⟩ | ⟨g', cap', cur, hv, hg, hw, hc, hx, hs, ht⟩
  · simp at h2
  · have hv' := hv
    simp at hv'
    obtain ⟨rfl, rfl⟩ := hv'
    refine .inr ⟨g, cap, cur, rfl, hg, hw, by omega, hx, hs, ?_⟩
    rw [← ht, List.take_take, Nat.min_eq_left (by omega)]
theorem PtOk.heap {A B : World} {lo hh : Nat} {p : Pt} (h : PtOk A lo hh p) (hk : B.heap[p.g]? = A.heap[p.g]?) (hu : ∀ (k : Nat) (cs : Array Value) (fr : Nat × Nat), A.heap[k]? = some (Obj.cells cs 5 fr) → B.heap[k]? = some (Obj.cells cs 5 fr)) : PtOk B lo hh p := by
  obtain ⟨cur, h1, h2⟩ := h.ce
  exact ⟨h.g1, h.g2, h.n1, h.n2, h.n3, ⟨cur, hk.trans h1, h2⟩, fun x hx => own_kp (h.ky x hx) hu⟩
theorem typ_ne {A : World} {k m : Nat} {cs cs' : Array Value} {T T' : TypeId} {fr fr' : Nat × Nat} (h : A.heap[k]? = some (.cells cs T fr)) (h' : A.heap[m]? = some (.cells cs' T' fr')) (hT : T ≠ T') : k ≠ m := by
  rintro rfl
  rw [h] at h'
  simp at h'
  exact hT h'.2.1
theorem row_block {A : World} {lo sz g n cap : Nat} {T : TypeId} {xs : List Value} (h : A.ownsRow lo T sz (.slice (some ⟨g, 0, none⟩) n cap) n xs) : ∃ cur, A.heap[g]? = some (.cells cur T) := by
  rcases h.2 with ⟨q, _⟩ | ⟨g', c, cur, q, _, hw, _⟩
  · simp at q
  · simp at q
    obtain ⟨rfl, _⟩ := q
    exact ⟨cur, hw⟩
/-- A part without its first entry. -/
def tlP (p : Pt) : Pt := ⟨p.g, p.o + 7, p.cap - 1, p.xs.tail, p.r⟩
section
variable {w : World} {lo hh h gp cap : Nat} {p : Pt} {P : List Pt}
theorem HM.tail (H : HM w lo hh h (p :: P)) (hv : w.heap[h]? = some (.cells #[.slice (some ⟨gp, 0, none⟩) (p :: P).length cap] 50)) (hrow : w.ownsRow lo 53 2 (.slice (some ⟨gp, 0, none⟩) (p :: P).length cap) (p :: P).length ((p :: P).flatMap p2))
    (hgl : lo ≤ gp) (hgh : gp < hh) (hn : 1 < p.xs.length) {W : World} {cur : Array Value} {vs : List Value} (hcur : w.heap[p.g]? = some (.cells cur 36)) (hW : StW w W p.g p.o cur 36 vs) (hvs : vs.length = 7) :
    HM (W.setCell ⟨gp, 0, none⟩ (lv (tlP p))) lo hh h (tlP p :: P) ∧ Fr lo hh w (W.setCell ⟨gp, 0, none⟩ (lv (tlP p))) := by
  have hp := H.pt p (List.mem_cons_self ..)
  obtain ⟨cur0, hcur0, hcc⟩ := hp.ce
  obtain rfl : cur0 = cur := by rw [hcur0] at hcur; simpa using hcur
  obtain ⟨pc, hpc⟩ := row_block hrow
  obtain ⟨cur', hz1, _, hz2, _⟩ := hW.c
  have n1 : gp ≠ p.g := typ_ne hpc hcur (by decide)
  have n2 : h ≠ p.g := typ_ne hv hcur (by decide)
  have n3 : h ≠ gp := typ_ne hv hpc (by decide)
  have hoth : ∀ k, k ≠ gp → k ≠ p.g → (W.setCell ⟨gp, 0, none⟩ (lv (tlP p))).heap[k]? = w.heap[k]? := fun k h1 h2 => by rw [Below.heap_setCell _ _ _ _ h1, hW.o _ h2]
  have hu : ∀ (k : Nat) (cs : Array Value) (fr : Nat × Nat), w.heap[k]? = some (Obj.cells cs 5 fr) → (W.setCell ⟨gp, 0, none⟩ (lv (tlP p))).heap[k]? = some (Obj.cells cs 5 fr) := fun k cs fr q => (hoth k (typ_ne q hpc (by decide)) (typ_ne q hcur (by decide))).trans q
  have r1 := (World.ownsRow.stored (row_heap hrow (hW.o gp n1)) 0 (lv (tlP p))).1
  have e1 : ((p :: P).flatMap p2).set 0 (lv (tlP p)) = (tlP p :: P).flatMap p2 := rfl
  rw [e1] at r1
  refine ⟨⟨H.h1, H.h2, ⟨_, (hoth h n3 n2).trans hv, r1, fun k hk => by simp [Value.ownBlock] at hk; omega⟩, fun q hq => ?_, ?_, H.le⟩, ⟨(hW.b lo hp.g1).trans ((Below.refl _ _).setCell hgl _), fun k hk _ => hoth k (by omega) (by have := hp.g2; omega), hu⟩⟩
  · rcases List.mem_cons.1 hq with rfl | hq
    · have hl : p.xs.tail.length = p.xs.length - 1 := by simp
      refine ⟨hp.g1, hp.g2, by show 0 < p.xs.tail.length; omega, by show p.xs.tail.length ≤ p.cap - 1; have := hp.n2; omega, by show p.cap - 1 ≤ _; have := hp.n3; omega, ⟨cur', ?_, fun j hj i hi => ?_⟩, fun x hx => own_kp (hp.ky x (List.mem_of_mem_tail hx)) hu⟩
      · show (W.setCell ⟨gp, 0, none⟩ (lv (tlP p))).heap[p.g]? = _
        rw [Below.heap_setCell _ _ _ _ (Ne.symm n1)]; exact hz1
      · have hj' : j < p.xs.tail.length := hj
        show cur'[p.o + 7 + (7 * j + i)]? = some ((c7 (p.xs.tail[j]'hj'))[i]'hi)
        rw [hz2 _ (.inr (by omega))]
        have := hcc (j + 1) (by omega) i hi
        rw [show p.o + 7 + (7 * j + i) = p.o + (7 * (j + 1) + i) by omega, this]
        simp
        rfl
    · have hne : q.g ≠ p.g := by
        have hn := H.nd
        rw [List.map_cons, List.nodup_cons] at hn
        intro e
        exact hn.1 (e ▸ List.mem_map.2 ⟨q, hq, rfl⟩)
      have hqo := H.pt q (List.mem_cons_of_mem _ hq)
      obtain ⟨cq, hcq, _⟩ := hqo.ce
      exact hqo.heap (hoth _ (typ_ne hcq hpc (by decide)) hne) hu
  · exact H.nd
/-- The last part comes first. -/
def lastF (P : List Pt) : List Pt := match P.getLast? with | none => [] | some l => l :: P.dropLast
theorem lastF_perm (P : List Pt) : (lastF P).Perm P := by
  unfold lastF
  rcases List.eq_nil_or_concat P with rfl | ⟨L, b, rfl⟩
  · exact List.Perm.refl _
  · simp only [List.concat_eq_append, List.getLast?_append, List.getLast?_singleton, Option.some_or, List.dropLast_concat]
    exact (List.perm_append_singleton b L).symm
end
end Go.Proofs.Ytdamlnpfpfpeeaa
