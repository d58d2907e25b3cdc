/- MS7 WKs, joined. -/
import Derived.Test.YtilbffgpniomcaaGreatDoorEE15
import Derived.Test.YtilbffgpniomcaaGreatDoorEE19
import Derived.Test.YtilbffgpniomcaaGreatDoorEE22
import Derived.Deep.Slices
import Derived.Deep.MidRow
/- A file system, and what stands beside it since a world. -/
namespace Go.Proofs.YtilbffgpniomcaaGreatDoor
open Go.RowKit Go.Shelf

/-- A file system that was made since W; since w0 nothing has turned but its blocks O0, and what is new. -/
def FsT (W w0 : World) (O0 : Nat → Prop) (w : World) (p : Value) (s : SfS) : Prop := ∃ O, Fs w O p s ∧ To w0 O0 w O ∧ Below W.heap.size W w ∧ ∀ k, O k → W.heap.size ≤ k
def FtR (W w0 : World) (O0 : Nat → Prop) (p : Value) (r : Int × SfS) (e : Ending) (w' : World) : Prop := e = .returned (.int .i64 r.1) ∧ FsT W w0 O0 w' p r.2
theorem FsT.b {W w0 w : World} {O0 : Nat → Prop} {p : Value} {s : SfS} (h : FsT W w0 O0 w p s) : Below W.heap.size W w := by obtain ⟨_, _, _, h, _⟩ := h; exact h
theorem FsT.o {W w0 w : World} {O0 : Nat → Prop} {p : Value} {s : SfS} (h : FsT W w0 O0 w p s) : Onl O0 w0 w := by obtain ⟨_, _, h, _, _⟩ := h; exact h.o
theorem FsT.w {W w0 w : World} {O0 : Nat → Prop} {p : Value} {s : SfS} (h : FsT W w0 O0 w p s) : FsW W w p s := by obtain ⟨O, h1, _, h2, h3⟩ := h; exact ⟨O, h1, h2, h3⟩
theorem FsW.t {W w : World} {p : Value} {s : SfS} (h : FsW W w p s) : ∃ O, FsT W w O w p s ∧ ∀ k, O k → W.heap.size ≤ k ∧ k < w.heap.size := by
  obtain ⟨O, h1, h2, h3⟩ := h
  exact ⟨O, ⟨O, h1, To.refl _ _, h2, h3⟩, fun k hk => ⟨h3 k hk, h1.lt k hk⟩⟩
/-- From a later world on. -/
theorem FsT.on {W w0 w : World} {O0 : Nat → Prop} {p : Value} {s : SfS} (h : FsT W w0 O0 w p s) : ∃ O, FsT W w O w p s ∧ ∀ k, O k → W.heap.size ≤ k ∧ k < w.heap.size := h.w.t
theorem FsT.below {W w0 w w' : World} {O0 : Nat → Prop} {p : Value} {s : SfS} (h : FsT W w0 O0 w p s) (hb : Below w.heap.size w w') : FsT W w0 O0 w' p s := by
  obtain ⟨O, h1, ht, h2, h3⟩ := h
  exact ⟨O, h1.below hb, ht.then hb, h2.trans (hb.mono h2.size), h3⟩
/-- .. the same, with the new memory as what stands beside it. -/
theorem FsT.since {W w w' : World} {O0 : Nat → Prop} {p : Value} {s : SfS} (h : FsT W w O0 w p s) (hb : Below w.heap.size w w') : FsT W w' O0 w' p s := by
  obtain ⟨O, h1, ht, h2, h3⟩ := h
  refine ⟨O, h1.below hb, ⟨fun k hk => ?_, Onl.refl _ _⟩, h2.trans (hb.mono h2.size), h3⟩
  rcases ht.g k hk with q | q
  · exact .inl q
  · omega
theorem fsT_ad {W w0 w w' : World} {O0 O : Nat → Prop} {p : Value} {r : Int × SfS} {e : Ending} (ht : To w0 O0 w O) (h2 : Below W.heap.size W w) (h3 : ∀ k, O k → W.heap.size ≤ k) (h : AdPost w O p r e w') : FtR W w0 O0 p r e w' := by
  obtain ⟨O', g1, g2, g3⟩ := h
  exact ⟨g1, O', g2, ht.trans g3, fsW_on h2 h3 g3.o, fun k hk => fsW_grw h2 h3 k (g3.g k hk)⟩
theorem ad_of {w w' : World} {O : Nat → Prop} {p : Value} {r : Int × SfS} {e : Ending} (h : FsR w O p r e w') : AdPost w O p r e w' := by
  obtain ⟨g1, g2, g3⟩ := h
  exact ⟨_, g1, g2, ⟨fun _ h => h, g3⟩⟩
theorem FsT.fail {W w0 w : World} {O0 : Nat → Prop} {p : Value} {s : SfS} (h : FsT W w0 O0 w p s) (n e : Int) (hl : n < 9223372036854775808) : Calls Tryz.prog 26 #[p, .int .i64 n, .int .i64 e] w (FtR W w0 O0 p (sfFail s n e)) := by
  obtain ⟨O, h1, ht, h2, h3⟩ := h
  exact (h1.fail n e hl).mono fun _ _ g => fsT_ad ht h2 h3 (ad_of g)
theorem FsT.save {W w0 w : World} {O0 : Nat → Prop} {p : Value} {s : SfS} (h : FsT W w0 O0 w p s) (n : Int) (rv : Value) (st : St) (hU : UR W rv st.ru) (hpn : s.pend.length < 1000000) (hT : Tb W) :
    Calls Tryz.prog 17 #[p, .int .i64 n, .agg #[rv, .int .i64 st.lo, .int .i64 st.ne, .int .i64 st.ma]] w (FtR W w0 O0 p (mfSave s n st)) := by
  obtain ⟨O, h1, ht, h2, h3⟩ := h
  exact (save_any h1 n rv st (hU.below h2) hpn (.inr (hT.below h2))).mono fun _ _ g => fsT_ad ht h2 h3 g
theorem FsT.app {W w0 w : World} {O0 : Nat → Prop} {p : Value} {s : SfS} (h : FsT W w0 O0 w p s) (n : Int) (dv av : Value) (x : Ed) (hE : EdR W dv av x) (hx : smI x) (hT : Tb W) :
    Calls Tryz.prog 22 #[p, .int .i64 n, .agg #[dv, av, .int .i64 x.lo, .int .i64 x.ne, .int .i64 x.ma]] w (FtR W w0 O0 p (mfApp s n x)) := by
  obtain ⟨O, h1, ht, h2, h3⟩ := h
  exact (mappend_any h1 n dv av x (hE.below h2) hx (.inr (hT.below h2))).mono fun _ _ g => fsT_ad ht h2 h3 g
theorem FsT.crash {W w0 w : World} {O0 : Nat → Prop} {p : Value} {s : SfS} (h : FsT W w0 O0 w p s) (n : Int) (kv : Value) (ks : List Int) (hK : KReads W kv ks) : Calls Tryz.prog 27 #[p, .int .i64 n, kv] w (FtR W w0 O0 p (0, sfCrash s n ks)) := by
  obtain ⟨O, h1, ht, h2, h3⟩ := h
  exact (h1.crash n kv ks fun w' ho => hK.keepB (fun k _ hl => (fsW_on h2 h3 ho).block k hl) (fsW_on h2 h3 ho).size).mono fun _ _ g => fsT_ad ht h2 h3 (ad_of g)
/-- A row that no block of O0 has. -/
theorem UR.onl {w w' : World} {O0 : Nat → Prop} {v : Value} {L : List Ru} (h : UR w v L) (ho : Onl O0 w w') (hn : ∀ Q, O0 Q → notP Q v L) : UR w' v L :=
  ⟨h.r.keepC fun h0 b off n c e => by
    subst e
    obtain ⟨b', off', e', hb', _⟩ := h.r.at h0 rfl
    simp only [Option.some.injEq, Addr.mk.injEq] at e'
    exact ho.block b (by omega) (fun z => hn b z h0 b off n c rfl rfl), h.c, h.z⟩
/-- A row of before W is in no block since. -/
theorem notP_old {W : World} {v : Value} {L : List Ru} (h : RuR W v L) {Q : Nat} (hQ : W.heap.size ≤ Q) : notP Q v L := notP_low h hQ
end Go.Proofs.YtilbffgpniomcaaGreatDoor

/- Rows of numbers, opened. -/
namespace Go.Proofs.YtilbffgpniomcaaGreatDoor
open Go.ChangeShapes Go.WideShapes Go.ChangeAt Go.RowKit Go.Joins

set_option maxRecDepth 100000 in
theorem openK11 {H : Type} {enc : TypeId × Value → H} {W : World} {base : Nat} {spare : Nat → Bool} {held : Bool} {cs : List Value} {x : DataW H × List MemPlace} {fuel : Nat}
    (hf : DataW.trod enc Tryz.prog W base spare held fuel 50 cs = some x) : ∃ v l, cs = [v] ∧ KReads W v l := by
  rcases open_ints Tryz.underlying50 Tryz.underlying3 (by kernel_rfl) hf with ⟨rfl, _⟩ | ⟨x, len, cap, zs, rfl, _, hl, hm, hz, _, hcell, hwz⟩
  · exact ⟨_, [], rfl, ⟨none, 0, rfl, Nat.zero_le _, .inl rfl⟩⟩
  · have hzl : len ≤ zs.length := by rw [hz]; split <;> omega
    have hlen : (zs.take len).length = len := by simp; omega
    refine ⟨_, zs.take len, rfl, _, cap, by rw [hlen], by omega, ?_⟩
    rcases Nat.eq_zero_or_pos len with h0 | h0
    · subst h0; exact .inl rfl
    · right
      have c0 := hcell 0 (by omega)
      have e0 : x.add 0 = x := by simp [Addr.add]
      rw [e0] at c0
      obtain ⟨hb, hs⟩ := cell_block c0
      obtain ⟨b, off, spot⟩ := x
      simp only at hb hs
      subst hs
      refine ⟨b, off, rfl, hb, fun j hj => ?_⟩
      have hj' : j < len := by omega
      have cj := hcell j (by omega)
      have ea : (⟨b, off, none⟩ : Addr).add j = ⟨b, off + j, none⟩ := by simp [Addr.add]
      rw [ea] at cj
      rw [cj]
      have hzj : j < zs.length := by omega
      have hg : zs.getD j 0 = zs[j] := by simp [List.getD, hzj]
      rw [hg]
      simp
set_option maxRecDepth 100000 in
theorem openKs {H : Type} {enc : TypeId × Value → H} {W : World} {r : Reach} {b0 base : Nat} {spare : Nat → Bool} {held : Bool} {v : Value} {d : DataW H} {p : List MemPlace}
    (hv : Value.okWide Tryz.prog W r b0 50 v) (h : DataW.Trod enc Tryz.prog W base spare held 50 v d p) : ∃ l : List Int, KReads W v l := by
  obtain ⟨a, len, cap, rfl⟩ := okWide_slice Tryz.underlying50 hv
  obtain ⟨fuel, hf⟩ := h
  obtain ⟨v', l, e, hr⟩ := openK11 hf
  simp [Value.cells] at e
  subst e
  exact ⟨l, hr⟩
end Go.Proofs.YtilbffgpniomcaaGreatDoor
