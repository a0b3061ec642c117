/-
  What comes in: lists of operations, as the walks are told of them.
  Both trees, while operations are done with them.
-/
import Derived.Test.YtlfgeanafidopaaQV
import Derived.Test.YtlfgeanafidopaaRU
import Derived.Test.YtlfgeanafidopaaRX
import Derived.Test.YtlfgeanafidopaaRE
import Derived.Test.YtlfgeanafidopaaRO
namespace Go.Proofs.Ytlfgeanafidopaa.Bt
open Go.ChangeShapes Go.WideShapes Go.ChangeAt Go.RowKit Go.Deep

/-- An operation of a list. -/
structure Opn where
  k : Int
  key : K
  val : K
  to : K
  n : Int
/-- Its number and its texts are as long as may be. -/
structure Opn.Ok (y : Opn) : Prop where
  n : y.n < 9223372036854775808
  key : y.key.size ≤ maxLen
  to : y.to.size ≤ maxLen
/-- The slice's elements are the operations l. -/
def ORow (w : World) (a : Option Addr) (l : List Opn) : Prop :=
  l = [] ∨ ∃ b off, a = some ⟨b, off, none⟩ ∧ ∀ i y, l[i]? = some y → w.cell? ⟨b, off + i * 5, none⟩ = some (.int .i64 y.k) ∧ w.cell? ⟨b, off + i * 5 + 1, none⟩ = some (.string y.key) ∧ w.cell? ⟨b, off + i * 5 + 2, none⟩ = some (.string y.val) ∧ w.cell? ⟨b, off + i * 5 + 3, none⟩ = some (.string y.to) ∧ w.cell? ⟨b, off + i * 5 + 4, none⟩ = some (.int .i64 y.n) ∧ y.Ok
structure OpArg (w : World) (a : Option Addr) (len cap : Nat) (l : List Opn) : Prop where
  len_eq : len = l.length
  le : len ≤ cap
  max : cap ≤ maxLen
  row : ORow w a l
theorem ORow.later {w w' : World} {a : Option Addr} {l : List Opn} (h : ORow w a l) (hb : Below w.heap.size w w') : ORow w' a l := by
  rcases h with h | ⟨b, off, ha, hc⟩
  · exact .inl h
  · refine .inr ⟨b, off, ha, fun i y hy => ?_⟩
    obtain ⟨q0, q1, q2, q3, q4, q5⟩ := hc i y hy
    have key : ∀ {o v}, w.cell? ⟨b, o, none⟩ = some v → w'.cell? ⟨b, o, none⟩ = some v := fun {o v} q => (hb.cell (p := ⟨b, o, none⟩) (World.block_lt_of_cell? w _ q)).trans q
    exact ⟨key q0, key q1, key q2, key q3, key q4, q5⟩
set_option maxRecDepth 100000 in
theorem oparg_open {H : Type} {enc : TypeId × Value → H} {w : World} {a : Option Addr} {len cap fuel : Nat} {d : DataW H} {p : List MemPlace}
    (hf : DataW.trod enc Try.prog w 0 (fun _ => true) true fuel 23 [.slice a len cap] = some (d, p)) : ∃ l, OpArg w a len cap l ∧ (cap = 0 ∨ ∃ elems spare, d = .slice elems spare ∧ elems.length + spare.length = cap) := by
  rcases open_slice Try.underlying23 hf with ⟨hcs, _⟩ | ⟨ad, len', cap', m, n, D, Pl, hcs, _, hl, hm, hmm, hxx, hx⟩
  · simp at hcs
    obtain ⟨rfl, rfl, rfl⟩ := hcs
    exact ⟨[], ⟨rfl, Nat.le_refl _, by decide, .inl rfl⟩, .inl rfl⟩
  · simp at hcs
    obtain ⟨rfl, rfl, rfl⟩ := hcs
    have hmm' : m = cap := by simpa using hmm
    subst hmm'
    have each : ∀ i, ∃ y : Opn, i < len → w.cell? (ad.add (i * 5)) = some (.int .i64 y.k) ∧ w.cell? (ad.add (i * 5 + 1)) = some (.string y.key) ∧ w.cell? (ad.add (i * 5 + 2)) = some (.string y.val) ∧ w.cell? (ad.add (i * 5 + 3)) = some (.string y.to) ∧ w.cell? (ad.add (i * 5 + 4)) = some (.int .i64 y.n) ∧ y.Ok := by
      intro i
      by_cases hi : i < len
      · obtain ⟨cs', h1, h2⟩ := hx i (by omega)
        rw [show Try.prog.cellsOf 33 = 5 by kernel_rfl] at h1
        obtain ⟨_, hlen, hcell⟩ := World.cells?_some h1
        obtain ⟨xs, k, hk, hxy, _, hxl, hff⟩ := DataW.trod_struct Try.underlying33 h2
        match xs, hxl, cs', hlen with
        | [y0, y1, y2, y3, y4], _, [v0, v1, v2, v3, v4], _ =>
          have g0 := hff 0 _ rfl
          have g1 := hff 1 _ rfl
          have g2 := hff 2 _ rfl
          have g3 := hff 3 _ rfl
          have g4 := hff 4 _ rfl
          have ci : Try.prog.cellsOf 9 = 1 := by kernel_rfl
          have cj : Try.prog.cellsOf 3 = 1 := by kernel_rfl
          simp [ci, cj] at g0 g1 g2 g3 g4
          obtain ⟨z0, e0, _, _⟩ := DataW.trod_int Try.underlying3 g0
          obtain ⟨z1, e1, _, r1⟩ := DataW.trod_string Try.underlying9 g1
          obtain ⟨z2, e2, _, _⟩ := DataW.trod_string Try.underlying9 g2
          obtain ⟨z3, e3, _, r3⟩ := DataW.trod_string Try.underlying9 g3
          obtain ⟨z4, e4, q4, r4⟩ := DataW.trod_int Try.underlying3 g4
          have c0 := hcell 0 (by omega)
          have c1 := hcell 1 (by omega)
          have c2 := hcell 2 (by omega)
          have c3 := hcell 3 (by omega)
          have c4 := hcell 4 (by omega)
          rw [add_add] at c0 c1 c2 c3 c4
          simp at e0 e1 e2 e3 e4
          subst e0 e1 e2 e3 e4
          exact ⟨⟨z0, z1, z2, z3, z4⟩, fun _ => ⟨by simpa using c0, by simpa using c1, by simpa using c2, by simpa using c3, by simpa using c4, ⟨by
            unfold Lit.wf at r4
            rw [Bool.and_eq_true, decide_eq_true_eq, decide_eq_true_eq, show IntKind.max .i64 = 9223372036854775807 by decide] at r4
            have := r4.2
            show z4 < _
            omega, r1, r3⟩⟩⟩
      · exact ⟨⟨0, ⟨#[]⟩, ⟨#[]⟩, ⟨#[]⟩, 0⟩, fun h => absurd h hi⟩
    obtain ⟨F, hF⟩ := Classical.axiomOfChoice each
    refine ⟨(List.range len).map F, ⟨by simp, hl, hm, ?_⟩, .inr ⟨_, _, congrArg Prod.fst hxx, by simp; omega⟩⟩
    by_cases h0 : len = 0
    · exact .inl (by simp [h0])
    · obtain ⟨b, off, spot⟩ := ad
      have hspot : spot = none := by
        have := World.cell?_spot (hF 0 (by omega)).1
        simpa [Addr.add] using this
      subst hspot
      refine .inr ⟨b, off, rfl, fun i f hf => ?_⟩
      have hil : i < len := by
        have := (List.getElem?_eq_some_iff.1 hf).1
        simpa using this
      have hfi : F i = f := by simpa [hil] using hf
      have := hF i hil
      rw [hfi, add_plain', add_plain', add_plain', add_plain', add_plain'] at this
      exact this
end Go.Proofs.Ytlfgeanafidopaa.Bt
namespace Go.Proofs.Ytlfgeanafidopaa.Bt
open Go.RowKit Go.Shelf
set_option maxRecDepth 10000

theorem one_both {W : World} {p F r : Nat} {x : Tre} {fs : List Nat} (h : Both W p F r x fs) (y : Opn) (hy : y.Ok) (hlen : x.all.length ≤ 100000000) :
    Calls Try.prog 13 #[.pointer (some ⟨p, 0, none⟩), .pointer (some ⟨r, 0, none⟩), .agg #[.int .i64 y.k, .string y.key, .string y.val, .string y.to, .int .i64 y.n]] W fun e w' => e = .returned (.bool true) ∧ Bth W p F r fs x w' := by
  obtain ⟨k, key, val, to, n⟩ := y
  obtain ⟨o1, o2, o3⟩ := hy
  by_cases h1 : k = 1
  · subst h1; exact one1_both h key val to n hlen
  by_cases h2 : k = 2
  · subst h2; exact one2_both h key val to n hlen
  by_cases h3 : k = 3
  · subst h3; exact one3_both h key val to n hlen
  by_cases h4 : k = 4
  · subst h4; exact one4_both h key val to n hlen o2 o3 o1
  by_cases h5 : k = 5
  · subst h5; exact one5_both h key val to n hlen o2
  by_cases h6 : k = 6
  · subst h6; exact one6_both h key val to n hlen
  · exact one7_both h key val to n hlen k h1 h2 h3 h4 h5 h6
theorem one_nn (y : Opn) (W : World) :
    Calls Try.prog 13 #[.pointer none, .pointer none, .agg #[.int .i64 y.k, .string y.key, .string y.val, .string y.to, .int .i64 y.n]] W fun e w' => e = .returned (.bool true) ∧ Below W.heap.size W w' := by
  obtain ⟨k, key, val, to, n⟩ := y
  by_cases h1 : k = 1
  · subst h1; exact one1_nn W key val to n
  by_cases h2 : k = 2
  · subst h2; exact one2_nn W key val to n
  by_cases h3 : k = 3
  · subst h3; exact one3_nn W key val to n
  by_cases h4 : k = 4
  · subst h4; exact one4_nn W key val to n
  by_cases h5 : k = 5
  · subst h5; exact one5_nn W key val to n
  by_cases h6 : k = 6
  · subst h6; exact one6_nn W key val to n
  · exact one7_nn W key val to n k h1 h2 h3 h4 h5 h6
theorem rng_full {L : List KV} {m : Nat} (h : L.length ≤ m) : rng ⟨#[]⟩ ⟨#[]⟩ m L = L := by
  have e0 : ∀ x : KV, klt x.1 ⟨#[]⟩ = false := fun x => by
    unfold klt
    have : ((⟨#[]⟩ : K)).toList = [] := by rw [ByteArray.toList_eq]
    rw [this]
    cases x.1.toList <;> rfl
  have e1 : (L.filter fun x => !klt x.1 ⟨#[]⟩) = L := by
    rw [List.filter_eq_self]
    intro x _
    rw [e0]; rfl
  have e2 : ∀ l : List KV, l.takeWhile (okT ⟨#[]⟩) = l := fun l => by
    induction l with
    | nil => rfl
    | cons a l ih =>
      have : okT ⟨#[]⟩ a = true := by unfold okT; rw [show ((⟨#[]⟩ : K)).toList = [] by rw [ByteArray.toList_eq]]; rfl
      rw [List.takeWhile_cons, this, if_pos rfl, ih]
  unfold rng
  rw [e1, e2, List.take_of_length_le h]
/-- Both trees, behind k operations, in memory that is new. -/
structure Pl (w : World) (p F r k : Nat) (x : Tre) (fs : List Nat) (wr : World) : Prop where
  both : Both wr p F r x fs
  fsb : ∀ b ∈ fs, w.heap.size ≤ b
  pb : w.heap.size ≤ p
  rb : w.heap.size ≤ r
  below : Below w.heap.size w wr
  len : x.all.length ≤ 1048576 + k
theorem Pl.later {w : World} {p F r k : Nat} {x : Tre} {fs : List Nat} {wr w' : World} (h : Pl w p F r k x fs wr) (hb : Below wr.heap.size wr w') : Pl w p F r k x fs w' := ⟨h.both.later hb, h.fsb, h.pb, h.rb, bafter h.below hb, h.len⟩
theorem Pl.step {w : World} {p F r k : Nat} {x : Tre} {fs : List Nat} {wr w' : World} (h : Pl w p F r k x fs wr) (hB : Bth wr p F r fs x w') : ∃ x' fs', Pl w p F r (k + 1) x' fs' w' := by
  obtain ⟨x', fs', h1, h2, h3, h4⟩ := hB
  refine ⟨x', fs', h1, fun b hb => ?_, h.pb, h.rb, ?_, by have := h.len; omega⟩
  · rcases h2 b hb with q | q
    · exact h.fsb b q
    · have := h.below.size; omega
  · refine h.below.trans (h3.below h.below.size ?_)
    rintro k (e | e | e)
    · rw [e]; exact h.pb
    · exact h.fsb k e
    · rw [e]; exact h.rb
theorem Pl.one {w : World} {p F r k : Nat} {x : Tre} {fs : List Nat} {wr : World} (h : Pl w p F r k x fs wr) (hk : k ≤ 1000000) (y : Opn) (hy : y.Ok) :
    Calls Try.prog 13 #[.pointer (some ⟨p, 0, none⟩), .pointer (some ⟨r, 0, none⟩), .agg #[.int .i64 y.k, .string y.key, .string y.val, .string y.to, .int .i64 y.n]] wr fun e w' => e = .returned (.bool true) ∧ ∃ x' fs', Pl w p F r (k + 1) x' fs' w' := by
  refine (one_both h.both y hy (by have := h.len; omega)).mono ?_
  rintro e w' ⟨rfl, hB⟩
  exact ⟨rfl, h.step hB⟩
theorem Pl.clone {w : World} {p F r k : Nat} {x : Tre} {fs : List Nat} {wr : World} (h : Pl w p F r k x fs wr) :
    Calls Try.prog 12 #[.pointer (some ⟨p, 0, none⟩)] wr fun e w' => ∃ q fs', e = .returned (.pointer (some ⟨q, 0, none⟩)) ∧ Pl w q F r k x fs' w' := by
  refine (cloneT_any h.both.live).mono ?_
  rintro e w' ⟨q, rfl, hq⟩
  obtain ⟨fs', q1, q2⟩ := hq.live
  have hs := h.below.size
  exact ⟨q, fs', rfl, ⟨q1, h.both.at_.later hq.below, h.both.rl, h.both.up⟩, fun b hb => Nat.le_trans hs (q2 b hb), Nat.le_trans hs hq.p, h.rb, bafter h.below hq.below, h.len⟩
theorem Pl.range {w : World} {p F r k : Nat} {x : Tre} {fs : List Nat} {wr : World} (h : Pl w p F r k x fs wr) (hk : k ≤ 1000000) :
    Calls Try.prog 17 #[.pointer (some ⟨p, 0, none⟩), .string ⟨#[]⟩, .string ⟨#[]⟩, .int .i64 1073741824] wr fun e w' => ∃ a5 c5, e = .returned (.slice a5 x.all.length c5) ∧ NdAt w' (.slice a5 x.all.length c5) x.all ∧ Below wr.heap.size wr w' := by
  refine (h.both.live.range ⟨#[]⟩ ⟨#[]⟩ 1073741824 (by decide) (by decide) (.inl (by decide))).mono ?_
  rintro e w' ⟨v, rfl, ht⟩
  rw [rng_full (by have := h.len; omega)] at ht
  obtain ⟨a5, c5, e5⟩ := own_slice ht.at.own
  subst e5
  exact ⟨a5, c5, rfl, ht.at, ht.2⟩
theorem Pl.reads {w : World} {p F r k : Nat} {x : Tre} {fs : List Nat} {wr : World} (h : Pl w p F r k x fs wr) : ∃ ra rc, ∀ X, Below wr.heap.size wr X → X.cell? ⟨r, 0, none⟩ = some (.slice ra x.all.length rc) ∧ NdAt X (.slice ra x.all.length rc) x.all := by
  obtain ⟨v, h1, h2⟩ := h.both.at_
  obtain ⟨ra, rc, e⟩ := own_slice h2.own
  subst e
  exact ⟨ra, rc, fun X hX => ⟨(h1.later hX).row.cell (i := 0) rfl, h2.later hX⟩⟩
theorem Pl.shapes {w : World} {p F r k : Nat} {x : Tre} {fs : List Nat} {wr : World} (h : Pl w p F r k x fs wr) (hk : k ≤ 1000000) :
    Calls Try.prog 20 #[.pointer (some ⟨p, 0, none⟩)] wr fun e w' => ∃ a n c S, e = .returned (.slice a n c) ∧ ShRow wr w' (.slice a n c) S ∧ S.map Shc.s = shps x.n [x.T] ∧ Below wr.heap.size wr w' :=
  shapes_any h.both.live (by have := shps_tot h.both.live.lo h.both.live.inv; have := h.len; omega)
theorem Pl.conv {w : World} {p F r k : Nat} {x : Tre} {fs : List Nat} {wr : World} (h : Pl w p F r k x fs wr) (hk : k ≤ 1000000) {w0 X : World} {a : Option Addr} {n c : Nat} {S : List Shc} (hS : ShRow w0 X (.slice a n c) S) (hE : S.map Shc.s = shps x.n [x.T]) :
    Calls Try.prog 19 #[.slice a n c] X fun e w' => ∃ a' n' c', e = .returned (.slice a' n' c') ∧ RSh X w' (.slice a' n' c') S ∧ Below X.heap.size X w' :=
  conv_any hS (by have := shps_tot h.both.live.lo h.both.live.inv; rw [← hE, List.length_map] at this; have := h.len; omega)
theorem Pl.sound {w : World} {p F r k : Nat} {x : Tre} {fs : List Nat} {wr : World} (h : Pl w p F r k x fs wr) (hk : k ≤ 1000000) {w0 X : World} {a : Option Addr} {n c : Nat} {S : List Shc} (hS : RSh w0 X (.slice a n c) S) (hE : S.map Shc.s = shps x.n [x.T]) :
    Calls Try.prog 18 #[.slice a n c, .int .i64 (F : Nat)] X fun e w' => e = .returned (.bool true) ∧ Below X.heap.size X w' :=
  sound_tree h.both.live.lo h.both.live.hi h.both.live.inv h.both.up h.both.rl hE hS (by have := h.len; omega)
theorem shps_first : ∀ (n : Nat) (T : El (n + 1)), ∃ rest, shps n [T] = shp n T :: rest
  | 0, _ => ⟨[], rfl⟩
  | _ + 1, _ => ⟨_, rfl⟩
theorem Pl.top {w : World} {p F r k : Nat} {x : Tre} {fs : List Nat} {wr : World} (h : Pl w p F r k x fs wr) (hk : k ≤ 1000000) :
    Calls Try.prog 20 #[.pointer (some ⟨p, 0, none⟩)] wr fun e w' => ∃ g n c, e = .returned (.slice (some ⟨g, 0, none⟩) n c) ∧ 0 < n ∧ w'.cell? ⟨g, 0, none⟩ = some (.int .i64 (x.n : Int)) ∧ Below wr.heap.size wr w' := by
  refine (h.shapes hk).mono ?_
  rintro e w' ⟨a, n, c, S, rfl, hS, hE, hb⟩
  obtain ⟨rest, hr⟩ := shps_first x.n x.T
  rw [hr] at hE
  cases S with
  | nil => simp at hE
  | cons s S =>
    have hs : s.s = shp x.n x.T := by simpa using (List.cons.inj hE).1
    obtain ⟨g, cap, e1, q0, _⟩ := hS.cells (i := 0) (c := s) rfl
    have ea : a = some ⟨g, 0, none⟩ := by injection e1
    have en : n = (s :: S).length := by injection e1
    refine ⟨g, n, c, by rw [ea], by rw [en]; simp, ?_, hb⟩
    rw [hs, Nat.zero_mul] at q0
    exact q0
theorem Pl.level {w : World} {p F r k : Nat} {x : Tre} {fs : List Nat} {wr : World} (h : Pl w p F r k x fs wr) (hk : k ≤ 1000000) : x.n ≤ 3000000 := by
  have h1 := inv_level h.both.live.lo h.both.live.inv
  have h2 := h.len
  have h3 : (flats x.T.l).length = x.all.length := rfl
  omega
end Go.Proofs.Ytlfgeanafidopaa.Bt
