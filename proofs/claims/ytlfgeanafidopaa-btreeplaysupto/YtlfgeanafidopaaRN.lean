/-
  The document's Sound: a tree's shapes are sound.
  Range of a list: parts of a range, one behind the other.
-/
import Derived.Test.YtlfgeanafidopaaRM
import Derived.Test.YtlfgeanafidopaaQT
namespace Go.Proofs.Ytlfgeanafidopaa.Bt
open Go.RowKit Go.Shelf
set_option maxRecDepth 10000

theorem Cnt.later {w w' : World} {F L k : Nat} {s : Shc} (h : Cnt w F L k s) (hb : Below w.heap.size w w') : Cnt w' F L k s := ⟨h.keys.later hb, h.le, h.ge, h.srt, h.size⟩
/-- Rows that are sound. -/
structure SndP (w : World) (F top : Nat) (S : List Shc) (RR : List (List Shc)) : Prop where
  fall : Fall S top RR
  cnt : ∀ (k : Nat) (r : List Shc), RR[k]? = some r → ∀ s ∈ r, Cnt w F RR.length k s
  kin : Kin RR
  key : ∀ lv, RR[top]? = some lv → ∀ (k : Nat) (r r2 : List Shc), RR[k]? = some r → RR[k + 1]? = some r2 → ∀ (i : Nat) (s : Shc), r[i]? = some s → ∀ (j : Nat) (key : K), s.s.ks[j]? = some key → KyP r2 lv (fstL (RR.drop (k + 1))) (cum r i + j) key s.s.d
  leaf : ∀ lv, RR[top]? = some lv → ∀ (i : Nat) (f g : Shc), lv[i]? = some f → lv[i + 1]? = some g → ∃ kl k0 rest, f.s.ks.getLast? = some kl ∧ g.s.ks = k0 :: rest ∧ klt kl k0 = true
theorem SndP.later {w w' : World} {F top : Nat} {S : List Shc} {RR : List (List Shc)} (h : SndP w F top S RR) (hb : Below w.heap.size w w') : SndP w' F top S RR := ⟨h.fall, fun k r hr s hs => (h.cnt k r hr s hs).later hb, h.kin, h.key, h.leaf⟩
theorem Cnt.at {w : World} {F L k : Nat} {s : Shc} (h : Cnt w F L k s) {j : Nat} {key : K} (hj : s.s.ks[j]? = some key) : w.cell? ⟨s.B, j, none⟩ = some (.string key) := by
  rw [h.keys.cell, List.getElem?_map, hj]; rfl
theorem Cnt.of {w : World} {F L k : Nat} {s : Shc} (h : Cnt w F L k s) {key : K} (hm : key ∈ s.s.ks) : key.size ≤ maxLen := h.size key hm
theorem last_at {ks : List K} {kl : K} (h : ks.getLast? = some kl) : ∃ M, ks.length = M + 1 ∧ ks[M]? = some kl := by
  have hne : ks ≠ [] := fun e => by rw [e] at h; simp at h
  have hl : 0 < ks.length := by cases ks with
    | nil => exact absurd rfl hne
    | cons a b => simp
  refine ⟨ks.length - 1, by omega, ?_⟩
  rw [List.getLast?_eq_getElem?] at h
  exact h
set_option maxHeartbeats 2000000 in
theorem keyed_any {w : World} {G cap F top : Nat} {S : List Shc} {RR : List (List Shc)} (hF2 : F ≤ 64) (h : LvAt w G cap RR) (hP : SndP w F top S RR) {k : Nat} (hk : k + 1 < RR.length) :
    Calls Try.prog 42 #[.slice (some ⟨G, 0, none⟩) RR.length cap, .int .i64 (k : Nat)] w fun e w' => e = .returned (.bool true) ∧ Below w.heap.size w w' := by
  have hlen := hP.fall.len
  obtain ⟨r, hr⟩ : ∃ r, RR[k]? = some r := ⟨_, List.getElem?_eq_getElem (by omega)⟩
  obtain ⟨r2, hr2⟩ : ∃ r2, RR[k + 1]? = some r2 := ⟨_, List.getElem?_eq_getElem hk⟩
  obtain ⟨lv, hlv⟩ : ∃ lv, RR[top]? = some lv := ⟨_, List.getElem?_eq_getElem (by omega)⟩
  obtain ⟨b, c, q1, _⟩ := h.rows k r hr
  obtain ⟨b2, c2, q2, _⟩ := h.rows (k + 1) r2 hr2
  obtain ⟨bL, cL, q3, _⟩ := h.rows top lv hlv
  have hsum := hP.kin.row k r r2 hr hr2
  have hd : RR.drop (k + 1) = r2 :: RR.drop (k + 2) := by
    obtain ⟨_, e⟩ := List.getElem?_eq_some_iff.1 hr2
    rw [List.drop_eq_getElem_cons hk, e]
  refine keyed_in (N := r.length) (c := c) (b := b) (N2 := r2.length) (c2 := c2) (b2 := b2) (NL := lv.length) (cL := cL) (bL := bL) (C := cum r) (hP.kin.all) hk (hP.kin.len k r hr) (hP.kin.len (k + 1) r2 hr2) (hP.kin.len top lv hlv) rfl ?_
  refine (first_any h hP.kin (RR.length - (k + 2)) (k + 1) (by omega)).mono ?_
  rintro e w' ⟨Gb, cb, rfl, hI, hB⟩
  have hfl : (fstL (RR.drop (k + 1))).length = r2.length + 1 := by rw [hd, fstL_len]
  refine ⟨Gb, cb, by rw [hfl], hB, ?_⟩
  have h' := h.later hB
  have hP' := hP.later hB
  have row1 : ∀ {k r b c}, RR[k]? = some r → w.cell? ⟨G, k, none⟩ = some (.slice (some ⟨b, 0, none⟩) r.length c) → w'.cell? ⟨G, k, none⟩ = some (.slice (some ⟨b, 0, none⟩) r.length c) ∧ RowAt w' b r := fun {k r b c} hr hq => by
    obtain ⟨b', c', t1, t2⟩ := h.rows k r hr
    rw [hq] at t1
    cases t1
    exact ⟨(hB.cell (World.block_lt_of_cell? w _ hq)).trans hq, t2.later hB⟩
  obtain ⟨u1, v1⟩ := row1 hr q1
  obtain ⟨u2, v2⟩ := row1 hr2 q2
  obtain ⟨u3, v3⟩ := row1 hlv q3
  refine ⟨u1, u2, by rw [show RR.length - 1 = top by omega]; exact u3, fun i hi => ?_⟩
  obtain ⟨s, hs⟩ : ∃ s, r[i]? = some s := ⟨_, List.getElem?_eq_getElem hi⟩
  have hcs := hP'.cnt k r hr s (List.mem_of_getElem? hs)
  obtain ⟨_, y2, y3⟩ := v1.cells hs
  refine ⟨s.B, s.s.ks.length, s.s.d, cum_succ hs, by rw [← hsum]; exact cum_le r _, y2, y3, fun j hj => ?_⟩
  obtain ⟨key, hkey⟩ : ∃ key, s.s.ks[j]? = some key := ⟨_, List.getElem?_eq_getElem hj⟩
  obtain ⟨lf, s2, f, k0, rest, z1, z2, z3, z4, z5, z6, z7⟩ := hP.key lv hlv k r r2 hr hr2 i s hs j key hkey
  have hcf := hP'.cnt top lv hlv f (List.mem_of_getElem? z4)
  have hk0 : f.s.ks[0]? = some k0 := by rw [z5]; rfl
  refine ⟨(List.getElem?_eq_some_iff.1 z2).1, key, lf, f.B, f.s.ks.length, k0, s2.s.d, (List.getElem?_eq_some_iff.1 z4).1, by rw [z5]; simp, hcs.at hkey, hI.cell z1, (v3.cells z4).2.1, hcf.at hk0, (v2.cells z2).2.2, ?_, z3, ?_⟩
  · have := lessIs (hcf.of (List.mem_of_getElem? hk0)) (hcs.of (List.mem_of_getElem? hkey))
    rw [z6] at this
    exact this
  · rcases z7 with e | ⟨lf', f', kl, e, t1, t2, t3⟩
    · exact .inl e
    · right
      obtain ⟨M2, m1, m2⟩ := last_at t2
      have hcf' := hP'.cnt top lv hlv f' (List.mem_of_getElem? t1)
      refine ⟨lf', f'.B, M2, kl, e, by have := (v3.cells t1).2.1; rw [m1] at this; exact this, hcf'.at m2, by have := hcf'.le; omega, ?_⟩
      have := lessIs (hcf'.of (List.mem_of_getElem? m2)) (hcs.of (List.mem_of_getElem? hkey))
      rw [t3] at this
      exact this
/-- What Sound reads of the leaves. -/
def LfW (w : World) (bL NL : Nat) : Prop := ∀ i, i + 1 < NL → ∃ (B1 M1 B2 M2 : Nat) (kl k0 : K), M1 ≤ 1000000 ∧ 0 < M2 ∧ w.cell? ⟨bL, i * 3 + 1, none⟩ = some (.slice (some ⟨B1, 0, none⟩) (M1 + 1) (M1 + 1)) ∧ w.cell? ⟨B1, M1, none⟩ = some (.string kl) ∧ w.cell? ⟨bL, (i + 1) * 3 + 1, none⟩ = some (.slice (some ⟨B2, 0, none⟩) M2 M2) ∧ w.cell? ⟨B2, 0, none⟩ = some (.string k0) ∧ LessIs kl k0 true
theorem leaves_at {w : World} {G cap F top : Nat} {S : List Shc} {RR : List (List Shc)} (hF2 : F ≤ 64) (h : LvAt w G cap RR) (hP : SndP w F top S RR) : ∃ bL NL cL, NL ≤ 100000000 ∧ w.cell? ⟨G, top, none⟩ = some (.slice (some ⟨bL, 0, none⟩) NL cL) ∧ LfW w bL NL := by
  have hlen := hP.fall.len
  obtain ⟨lv, hlv⟩ : ∃ lv, RR[top]? = some lv := ⟨_, List.getElem?_eq_getElem (by omega)⟩
  obtain ⟨bL, cL, q3, v3⟩ := h.rows top lv hlv
  refine ⟨bL, lv.length, cL, hP.kin.len top lv hlv, q3, fun i hi => ?_⟩
  obtain ⟨f, hf⟩ : ∃ f, lv[i]? = some f := ⟨_, List.getElem?_eq_getElem (by omega)⟩
  obtain ⟨g, hg⟩ : ∃ g, lv[i + 1]? = some g := ⟨_, List.getElem?_eq_getElem hi⟩
  obtain ⟨kl, k0, rest, t1, t2, t3⟩ := hP.leaf lv hlv i f g hf hg
  obtain ⟨M1, m1, m2⟩ := last_at t1
  have hcf := hP.cnt top lv hlv f (List.mem_of_getElem? hf)
  have hcg := hP.cnt top lv hlv g (List.mem_of_getElem? hg)
  have hk0 : g.s.ks[0]? = some k0 := by rw [t2]; rfl
  refine ⟨f.B, M1, g.B, g.s.ks.length, kl, k0, by have := hcf.le; omega, by rw [t2]; simp, by have := (v3.cells hf).2.1; rw [m1] at this; exact this, hcf.at m2, (v3.cells hg).2.1, hcg.at hk0, ?_⟩
  have := lessIs (hcf.of (List.mem_of_getElem? m2)) (hcg.of (List.mem_of_getElem? hk0))
  rw [t3] at this
  exact this
set_option maxHeartbeats 8000000 in
theorem sound_any {w0 w : World} {a : Option Addr} {n c F top : Nat} {S : List Shc} {RR : List (List Shc)} (h : RSh w0 w (.slice a n c) S) (hP : SndP w F top S RR) (h1 : 4 ≤ F) (h2 : F ≤ 64) (hl : S.length ≤ 100000000) :
    Calls Try.prog 18 #[.slice a n c, .int .i64 (F : Nat)] w fun e w' => e = .returned (.bool true) ∧ Below w.heap.size w w' := by
  have hlen := hP.fall.len
  have hall := hP.kin.all
  have kL := levels_any h hP.fall hl
  have HCn : Hid (∀ W G cap, Below w.heap.size w W → LvAt W G cap RR → Calls Try.prog 40 #[.slice (some ⟨G, 0, none⟩) RR.length cap, .int .i64 (F : Nat)] W fun e w' => e = .returned (.bool true) ∧ ∃ q, w' = W.drewN q) := fun W G cap hb hA => counts_any hA (by omega) hall (fun r hr => by obtain ⟨i, hi⟩ := List.getElem?_of_mem hr; exact hP.kin.len i r hi) (hP.later hb).cnt
  have HFs : Hid (∀ W G cap, Below w.heap.size w W → LvAt W G cap RR → Calls Try.prog 41 #[.slice (some ⟨G, 0, none⟩) RR.length cap, .int .i64 0] W fun e w' => ∃ G2 n2 c2, e = .returned (.tuple #[.slice (some ⟨G2, 0, none⟩) n2 c2, .bool true]) ∧ Below W.heap.size W w') := fun W G cap hb hA => by
    refine (first_any hA hP.kin top 0 (by omega)).mono ?_
    rintro e w' ⟨Gb, cb, rfl, _, hB⟩
    exact ⟨Gb, _, cb, rfl, hB⟩
  have HKd : Hid (∀ W G cap k, Below w.heap.size w W → LvAt W G cap RR → k + 1 < RR.length → Calls Try.prog 42 #[.slice (some ⟨G, 0, none⟩) RR.length cap, .int .i64 (k : Nat)] W fun e w' => e = .returned (.bool true) ∧ Below W.heap.size W w') := fun W G cap k hb hA hk => keyed_any h2 hA (hP.later hb) hk
  have HLf : Hid (∀ W G cap, Below w.heap.size w W → LvAt W G cap RR → ∃ bL NL cL, NL ≤ 100000000 ∧ W.cell? ⟨G, top, none⟩ = some (.slice (some ⟨bL, 0, none⟩) NL cL) ∧ LfW W bL NL) := fun W G cap hb hA => leaves_at h2 hA (hP.later hb)
  obtain ⟨L, hL⟩ : ∃ L, L = RR.length := ⟨_, rfl⟩
  rw [← hL] at hlen hall kL HCn HFs HKd
  have hj : IntKind.i64.wrap ((L : Int) - 1) = (top : Int) := by rw [IntKind.wrap_i64]; omega
  have f1 : ¬ (F : Int) < 4 := by omega
  have f2 : ¬ (64 : Int) < (F : Int) := by omega
  have t1 : (top : Int) < (L : Int) := by omega
  have t2 : (0 : Int) ≤ (top : Int) := by omega
  have HTop : Hid (L = top + 1) := hlen
  clear h hP hL hl hlen
  go_enter Try.func18, Try.ntmps18
  go_wp2_with (first
    | (go_at_call 39; refine kL.mono ?_; rintro e w1 ⟨G, cap, rfl, hA, hb1⟩; have HA : Hid (LvAt w1 G cap RR) := hA; have HB1 : Hid (Below w.heap.size w w1) := hb1; clear hA hb1)
    | (go_at_call 40; refine (HCn.out _ G cap HB1.out HA.out).mono ?_; rintro e w2 ⟨rfl, q2, rfl⟩)
    | (go_at_call 41; refine (HFs.out _ G cap (bafter HB1.out (below_drawn w1 q2)) (HA.out.later (below_drawn w1 q2))).mono ?_; rintro e w3 ⟨G2, n2, c2, rfl, hb3⟩; have HB3 : Hid (Below w1.heap.size w1 w3) := bafter (below_drawn w1 q2) hb3; clear hb3))
  clear kL
  go_loopg [9] top (fun kx s9 wr => ∃ k : Nat, k + kx = top ∧ s9 = .int .i64 (k : Nat) ∧ Hid (Below w1.heap.size w1 wr))
  case atStart => exact ⟨0, by omega, rfl, HB3.out⟩
  case round =>
    obtain ⟨k, hk, rfl, I⟩ := hrel
    by_cases hlt : k < top
    · have hk1 : (k : Int) < (top : Int) := by omega
      have kk := HKd.out wr G cap k (bafter HB1.out I.out) (HA.out.later I.out) (by have := HTop.out; omega)
      go_wp2_with (go_at_call 42; refine kk.mono ?_; rintro e w4 ⟨rfl, hb4⟩; have HB4 : Hid (Below w1.heap.size w1 w4) := bafter I.out hb4; clear hb4)
      go_roundg (top - (k + 1))
      case measure => omega
      case rel => exact ⟨k + 1, by omega, by go_num, HB4.out⟩
    · have hkt : k = top := by omega
      subst hkt
      obtain ⟨bL, NL, cL, hN, x3, hW⟩ := HLf.out wr G cap (bafter HB1.out I.out) (HA.out.later I.out)
      have HW : Hid (LfW wr bL NL) := hW
      have HBw : Hid (Below w.heap.size w wr) := bafter HB1.out I.out
      obtain ⟨w9, hw9⟩ : ∃ w9, w9 = wr := ⟨_, rfl⟩
      clear hW HCn HFs HKd HLf
      go_wp2
      go_loopg [11] NL (fun kx s11 wr' => ∃ i q : Nat, (i + 1) + kx = NL + 1 ∧ s11 = .int .i64 ((i + 1 : Nat) : Int) ∧ wr' = wr.drewN q)
      case atStart => exact ⟨0, 0, by omega, rfl, rfl⟩
      case round =>
        obtain ⟨i, q, hi, rfl, rfl⟩ := hrel
        by_cases hlt2 : i + 1 < NL
        · obtain ⟨B1, M1, B2, M2, kl, k0, z0, z1, z2, z3, z4, z5, z6⟩ := HW.out i hlt2
          have HX : Hid (LessIs kl k0 true) := z6
          obtain ⟨i1, hi1⟩ : ∃ i1, i1 = i + 1 := ⟨_, rfl⟩
          have HI1 : Hid (i1 = i + 1) := hi1
          obtain ⟨M3, hM3⟩ : ∃ M3, M3 = M1 + 1 := ⟨_, rfl⟩
          rw [← hi1] at z4 hlt2 ⊢
          rw [← hM3] at z2
          have g1 : (i1 : Int) < (NL : Int) := by omega
          have g2 : (0 : Int) ≤ (i1 : Int) := by omega
          have g3 : IntKind.i64.wrap ((i1 : Int) - 1) = (i : Int) := by rw [IntKind.wrap_i64]; omega
          have g4 : (i : Int) < (NL : Int) := by omega
          have g5 : (0 : Int) ≤ (i : Int) := by omega
          have g6 : IntKind.i64.wrap ((M3 : Int) - 1) = (M1 : Int) := by rw [IntKind.wrap_i64]; omega
          have g7 : (M1 : Int) < (M3 : Int) := by omega
          have g8 : (0 : Int) ≤ (M1 : Int) := by omega
          have g9 : (0 : Int) < (M2 : Int) := by omega
          clear z6 hi1 hM3
          go_wp2
          go_quiet (exact HX.out.q _ _ _)
          go_wp2
          go_roundg (NL - i1)
          case measure => (have := HI1.out; omega)
          case rel => exact ⟨i + 1, _, by have := HI1.out; omega, by rw [HI1.out]; go_num, rfl⟩
        · have hi1 : ¬ ((i + 1 : Nat) : Int) < (NL : Int) := by omega
          go_wp2
          go_ret
          exact ⟨rfl, bafter HBw.out (below_drawn wr q)⟩
end Go.Proofs.Ytlfgeanafidopaa.Bt
namespace Go.Proofs.Ytlfgeanafidopaa.Bt

theorem takeWhile_filter {q : KV → Bool} : ∀ {M : List KV}, Srt M → (∀ x y : KV, klt x.1 y.1 = true → q y = true → q x = true) → M.takeWhile q = M.filter q
  | [], _, _ => rfl
  | x :: M, h, hq => by
    obtain ⟨h1, h2⟩ := List.pairwise_cons.1 h
    cases hx : q x with
    | true => rw [List.takeWhile_cons_of_pos hx, List.filter_cons_of_pos hx, takeWhile_filter h2 hq]
    | false =>
      rw [List.takeWhile_cons_of_neg (by simp [hx]), List.filter_cons_of_neg (by simp [hx])]
      exact (List.filter_eq_nil_iff.2 fun y hy hqy => by rw [hq x y (h1 y hy) hqy] at hx; cases hx).symm
theorem okT_down {to : K} (x y : KV) (h : klt x.1 y.1 = true) (hy : okT to y = true) : okT to x = true := by
  unfold okT at *
  cases he : to.toList.isEmpty with
  | true => rfl
  | false => rw [he] at hy; exact klt_trans h hy
/-- What Range tells of a sorted list, where it may tell all. -/
theorem rng_filter {k to : K} {m : Nat} {L : List KV} (hs : Srt L) (hm : L.length ≤ m) : rng k to m L = L.filter fun x => !klt x.1 k && okT to x := by
  unfold rng
  rw [takeWhile_filter (hs.sublist List.filter_sublist) okT_down, List.filter_filter, List.take_of_length_le (Nat.le_trans (List.length_filter_le _ _) hm)]
  congr 1
  funext x
  exact Bool.and_comm _ _
theorem filter_parts {k at_ to : K} (h1 : klt at_ k = false) (ha : at_.toList.isEmpty = false) (h2 : to.toList.isEmpty = true ∨ klt to at_ = false) : ∀ {L : List KV}, Srt L →
    (L.filter fun x => !klt x.1 k && okT at_ x) ++ (L.filter fun x => !klt x.1 at_ && okT to x) = L.filter fun x => !klt x.1 k && okT to x
  | [], _ => rfl
  | x :: L, h => by
    obtain ⟨g1, g2⟩ := List.pairwise_cons.1 h
    have ok1 : ∀ y : KV, okT at_ y = klt y.1 at_ := fun y => by unfold okT; rw [ha]; rfl
    cases hx : klt x.1 at_ with
    | true =>
      have hto : okT to x = true := by
        unfold okT
        rcases h2 with q | q
        · rw [q]; rfl
        · rw [klt_of_le hx q, Bool.or_true]
      have e := filter_parts h1 ha h2 g2
      rw [List.filter_cons_of_neg (l := L) (p := fun x => !klt x.1 at_ && okT to x) (by simp [hx])]
      cases hk : klt x.1 k with
      | true => rw [List.filter_cons_of_neg (by simp [hk]), List.filter_cons_of_neg (by simp [hk])]; exact e
      | false => rw [List.filter_cons_of_pos (by simp [hk, ok1, hx]), List.filter_cons_of_pos (by simp [hk, hto]), List.cons_append, e]
    | false =>
      have hall : ∀ y ∈ x :: L, klt y.1 at_ = false := by
        intro y hy
        rcases List.mem_cons.1 hy with rfl | hy
        · exact hx
        · cases hc : klt y.1 at_ with
          | false => rfl
          | true => have := klt_trans (g1 y hy) hc; rw [hx] at this; cases this
      have hall2 : ∀ y ∈ x :: L, klt y.1 k = false := by
        intro y hy
        cases hc : klt y.1 k with
        | false => rfl
        | true =>
          have := klt_of_le hc h1
          rw [hall y hy] at this; cases this
      rw [List.filter_eq_nil_iff.2 (fun y hy => by rw [ok1, hall y hy]; simp), List.nil_append]
      exact List.filter_congr fun y hy => by rw [hall y hy, hall2 y hy]
theorem rng_parts {k at_ to : K} {m : Nat} {L : List KV} (hs : Srt L) (hm : L.length ≤ m) (h1 : klt at_ k = false) (ha : at_.toList.isEmpty = false) (h2 : to.toList.isEmpty = true ∨ klt to at_ = false) : rng k at_ m L ++ rng at_ to m L = rng k to m L := by
  rw [rng_filter hs hm, rng_filter hs hm, rng_filter hs hm]
  exact filter_parts h1 ha h2 hs
end Go.Proofs.Ytlfgeanafidopaa.Bt
