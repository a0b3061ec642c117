/-
  Nodes of unlike keys, put in either order; what Build answers, whatever comes in.
-/
import Derived.Test.YtpflacbinankmaaBSame
namespace Go.Proofs.Ytpflacbinankmaa.Bt
open Go.RowKit
set_option maxRecDepth 10000

def fine (y : Nw) : Bool := y.g || decide (putE y.k y.v = 0)
theorem bld_err (F : Nat) : ∀ (l : List Nw) (x : Tre), (bld F l x).2 = if l.all fine then 0 else 22
  | [], x => by simp [bld]
  | y :: l, x => by
    rw [bld, List.all_cons]
    cases hg : y.g with
    | true => rw [if_pos rfl, bld_err F l]; simp [fine, hg]
    | false =>
      rw [if_neg (by decide)]
      by_cases hE : putE y.k y.v = 0
      · rw [if_pos hE, bld_err F l]; simp [fine, hE]
      · rw [if_neg hE]
        have e1 : fine y = false := by simp [fine, hg, hE]
        rw [e1, Bool.false_and, if_neg (by decide)]
        show putE y.k y.v = 22
        unfold putE at hE ⊢
        split at hE
        · exact absurd rfl hE
        · rename_i q; rw [if_neg q]
theorem mem_ins (k v : K) : ∀ {l : List KV}, k ∉ l.map Prod.fst → ∀ z, z ∈ ins k v l ↔ z = (k, v) ∨ z ∈ l
  | [], _, z => by simp [ins]
  | x :: r, h, z => by
    have h1 : x.1 ≠ k := fun e => h (by simp [e])
    have h2 : k ∉ r.map Prod.fst := fun e => h (by rw [List.map_cons]; exact List.mem_cons_of_mem _ e)
    rw [ins, if_neg h1]
    split
    · rw [List.mem_cons, mem_ins k v h2 z, List.mem_cons]
      constructor
      · rintro (a | a | a) <;> simp [a]
      · rintro (a | a | a) <;> simp [a]
    · rw [List.mem_cons]
theorem srt_ext : ∀ {a b : List KV}, Srt a → Srt b → (∀ z, z ∈ a ↔ z ∈ b) → a = b
  | [], [], _, _, _ => rfl
  | [], y :: b, _, _, h => absurd ((h y).2 (by simp)) (by simp)
  | x :: a, [], _, _, h => absurd ((h x).1 (by simp)) (by simp)
  | x :: a, y :: b, ha, hb, h => by
    obtain ⟨a1, a2⟩ := List.pairwise_cons.1 ha
    obtain ⟨b1, b2⟩ := List.pairwise_cons.1 hb
    have e : x = y := by
      rcases List.mem_cons.1 ((h x).1 (by simp)) with q | q
      · exact q
      · rcases List.mem_cons.1 ((h y).2 (by simp)) with r | r
        · exact r.symm
        · have := klt_asymm (b1 x q); rw [a1 y r] at this; cases this
    subst e
    have hx : ∀ z, z ∈ a → z ≠ x := fun z hz e => by have := a1 z hz; rw [e, klt_irrefl] at this; cases this
    have hy : ∀ z, z ∈ b → z ≠ x := fun z hz e => by have := b1 z hz; rw [e, klt_irrefl] at this; cases this
    rw [srt_ext a2 b2 (fun z => ⟨fun q => ?_, fun q => ?_⟩)]
    · rcases List.mem_cons.1 ((h z).1 (List.mem_cons_of_mem _ q)) with r | r
      · exact absurd r (hx z q)
      · exact r
    · rcases List.mem_cons.1 ((h z).2 (List.mem_cons_of_mem _ q)) with r | r
      · exact absurd r (hy z q)
      · exact r
theorem look_no {k : K} {l : List KV} (h : k ∉ l.map Prod.fst) : look k l = none := by
  cases e : look k l with
  | none => rfl
  | some v => exact absurd ((look_mem k l).1 ⟨v, e⟩) h
theorem bld_mem {F : Nat} (hF : 4 ≤ F) : ∀ (l : List Nw) (x : Tre), InvT F x → l.all fine = true → l.Pairwise (fun a b => a.k ≠ b.k) → (∀ y ∈ l, y.k ∉ x.all.map Prod.fst) →
    InvT F (bld F l x).1 ∧ ∀ z, z ∈ (bld F l x).1.all ↔ z ∈ x.all ∨ ∃ y ∈ l, y.g = false ∧ z = (y.k, y.v)
  | [], x, h, _, _, _ => ⟨h, fun z => by simp [bld]⟩
  | y :: l, x, h, hf, hp, hn => by
    rw [List.all_cons, Bool.and_eq_true] at hf
    obtain ⟨f1, f2⟩ := hf
    obtain ⟨p1, p2⟩ := List.pairwise_cons.1 hp
    have hy := look_no (hn y (by simp))
    rw [bld]
    cases hg : y.g with
    | true =>
      rw [if_pos rfl]
      have e : delS F y.k x = x := by unfold delS; rw [hy, if_neg (by decide)]
      rw [e]
      obtain ⟨i1, i2⟩ := bld_mem hF l x h f2 p2 (fun z hz => hn z (by simp [hz]))
      refine ⟨i1, fun z => ?_⟩
      rw [i2 z]
      constructor
      · rintro (q | ⟨u, hu, q⟩)
        · exact .inl q
        · exact .inr ⟨u, by simp [hu], q⟩
      · rintro (q | ⟨u, hu, q⟩)
        · exact .inl q
        · rcases List.mem_cons.1 hu with r | r
          · rw [r, hg] at q; cases q.1
          · exact .inr ⟨u, r, q⟩
    | false =>
      have hE : putE y.k y.v = 0 := by simpa [fine, hg] using f1
      rw [if_neg (by decide), if_pos hE]
      have hok : (okKey y.k && okVal y.v) = true := by
        unfold putE at hE
        split at hE
        · assumption
        · exact absurd hE (by decide)
      have e : putR F y.k y.v x = putT F y.k y.v x := by unfold putR putS; rw [if_pos hok, hy, if_neg (by simp)]
      rw [e]
      obtain ⟨j1, j2⟩ := inv_put hF y.k y.v h
      have hm := mem_ins y.k y.v (hn y (by simp))
      obtain ⟨i1, i2⟩ := bld_mem hF l (putT F y.k y.v x) j1 f2 p2 (fun u hu hc => by
        rw [j2] at hc
        obtain ⟨z, hz, ez⟩ := List.mem_map.1 hc
        rcases (hm z).1 hz with q | q
        · rw [q] at ez; exact p1 u hu ez
        · exact hn u (by simp [hu]) (List.mem_map.2 ⟨z, q, ez⟩))
      refine ⟨i1, fun z => ?_⟩
      rw [i2 z, j2, hm z]
      constructor
      · rintro ((q | q) | ⟨u, hu, q⟩)
        · exact .inr ⟨y, by simp, hg, q⟩
        · exact .inl q
        · exact .inr ⟨u, by simp [hu], q⟩
      · rintro (q | ⟨u, hu, q⟩)
        · exact .inl (.inr q)
        · rcases List.mem_cons.1 hu with r | r
          · rw [r] at q; exact .inl (.inl q.2)
          · exact .inr ⟨u, r, q⟩
/-- Build's error and its entries, whatever the fan. -/
def bErr (f : Int) (l : List Nw) : Int := if okFan f then (bld f.toNat l tre0).2 else 22
def bAll (f : Int) (l : List Nw) : List KV := if bErr f l = 0 then (bld f.toNat l tre0).1.all else []
theorem bErr_eq (f : Int) (l : List Nw) : bErr f l = if okFan f && l.all fine then 0 else 22 := by
  unfold bErr
  rw [bld_err]
  cases okFan f <;> simp
theorem order_err (f : Int) (l : List Nw) : bErr f l.reverse = bErr f l := by rw [bErr_eq, bErr_eq, List.all_reverse]
theorem order_all (f : Int) {l : List Nw} (hp : l.Pairwise (fun a b => a.k ≠ b.k)) : bAll f l.reverse = bAll f l := by
  unfold bAll
  rw [order_err]
  split
  · rename_i h0
    rw [bErr_eq] at h0
    have hh : okFan f = true ∧ l.all fine = true := by
      cases h1 : okFan f <;> cases h2 : l.all fine <;> simp [h1, h2] at h0 ⊢
    have hF : 4 ≤ f.toNat := by have := hh.1; unfold okFan at this; simp at this; omega
    have e0 : ∀ y : Nw, y.k ∉ tre0.all.map Prod.fst := fun y h => by cases h
    have a := bld_mem hF l tre0 inv0 hh.2 hp (fun y _ => e0 y)
    have b := bld_mem hF l.reverse tre0 inv0 (by rw [List.all_reverse]; exact hh.2) (by rw [List.pairwise_reverse]; exact hp.imp fun h => Ne.symm h) (fun y _ => e0 y)
    refine srt_ext b.1.good.srt a.1.good.srt (fun z => ?_)
    rw [b.2 z, a.2 z]
    simp
  · rfl
/-- A tree, or none, as Build answers it. -/
def TP (w : World) (p : Option Addr) (L : List KV) : Prop := (p = none ∧ L = []) ∨ ∃ q F x fs, p = some ⟨q, 0, none⟩ ∧ Live w q F x fs ∧ x.all = L
theorem TP.later {w w' : World} {p : Option Addr} {L : List KV} (h : TP w p L) (hb : Below w.heap.size w w') : TP w' p L := by
  rcases h with h | ⟨q, F, x, fs, h1, h2, h3⟩
  · exact .inl h
  · exact .inr ⟨q, F, x, fs, h1, h2.later hb, h3⟩
theorem build_tp (f : Int) (a : Option Addr) (len cap : Nat) (l : List Nw) (w : World) (hA : NArg w a len cap l) (hsz : len < 2305843009213693000) :
    Calls Try.prog 9 #[.int .i64 f, .slice a len cap] w fun e w' => ∃ p, e = .returned (.tuple #[.pointer p, .int .i64 (bErr f l)]) ∧ TP w' p (bAll f l) ∧ Below w.heap.size w w' := by
  cases h : okFan f with
  | false =>
    have e : bErr f l = 22 := by unfold bErr; rw [h]; rfl
    refine (build_bad f a len cap w h).mono ?_
    rintro e' w' ⟨rfl, rfl⟩
    exact ⟨none, by rw [e], .inl ⟨rfl, by unfold bAll; rw [e, if_neg (by decide)]⟩, Below.refl _ _⟩
  | true =>
    obtain ⟨F, rfl, h1, h2⟩ : ∃ F : Nat, f = (F : Int) ∧ 4 ≤ F ∧ F ≤ 64 := by
      unfold okFan at h
      simp at h
      exact ⟨f.toNat, by omega, by omega, by omega⟩
    have e : bErr (F : Int) l = (bld F l tre0).2 := by unfold bErr; rw [if_pos h]; rfl
    refine (build_any F h1 h2 a len cap l w hA hsz).mono ?_
    rintro e' w' ⟨p, rfl, hb, hB⟩
    unfold bltV
    by_cases hE : (bld F l tre0).2 = 0
    · obtain ⟨fs, q1, _⟩ := (hB hE).live
      refine ⟨some ⟨p, 0, none⟩, by rw [if_pos hE, e, hE], .inr ⟨p, F, _, fs, rfl, q1, ?_⟩, hb⟩
      unfold bAll; rw [e, if_pos hE]; rfl
    · refine ⟨none, by rw [if_neg hE, e], .inl ⟨rfl, ?_⟩, hb⟩
      unfold bAll; rw [e, if_neg hE]
theorem range_tp {w : World} {p : Option Addr} {L : List KV} (h : TP w p L) (k to : K) (m : Nat) (hm : 0 < m) (hm2 : m ≤ 1099511627776) :
    Calls Try.prog 17 #[.pointer p, .string k, .string to, .int .i64 (m : Int)] w fun e w' => ∃ v, e = .returned v ∧ NdAt w' v (rng k to m L) ∧ Below w.heap.size w w' := by
  rcases h with ⟨rfl, rfl⟩ | ⟨q, F, x, fs, rfl, h2, rfl⟩
  · refine (range_nil k to m w).mono ?_
    rintro e w' ⟨rfl, hb⟩
    refine ⟨_, rfl, ⟨?_⟩, hb⟩
    have : rng k to m [] = [] := by simp [rng]
    rw [this]
    exact World.ownsRow_nil _ 0 _ 3
  · refine (h2.range k to m hm (by omega) (.inl hm2)).mono ?_
    rintro e w' ⟨v, rfl, ht⟩
    exact ⟨v, rfl, ht.at, ht.2⟩
set_option maxHeartbeats 400000 in
theorem len_nil (w : World) : Calls Try.prog 14 #[.pointer none] w fun e w' => e = .returned (.int .i64 0) ∧ w = w' := by
  go_enter Try.func14, Try.ntmps14
  go_wp2
  go_ret
  exact ⟨rfl, rfl⟩
theorem len_tp {w : World} {p : Option Addr} {L : List KV} (h : TP w p L) :
    Calls Try.prog 14 #[.pointer p] w fun e w' => e = .returned (.int .i64 ((L.length : Nat) : Int)) ∧ w = w' := by
  rcases h with ⟨rfl, rfl⟩ | ⟨q, F, x, fs, rfl, h2, rfl⟩
  · exact len_nil w
  · exact len_any h2
theorem rng_len (k to : K) (m : Nat) (L : List KV) : (rng k to m L).length ≤ m := by unfold rng; rw [List.length_take]; omega
/-- A row of nodes of any kind. -/
def nwv (y : Nw) : List Value := [.string y.k, .string y.v, .bool y.g]
theorem nwv_len (y : Nw) : (nwv y).length = 3 := rfl
theorem nwv_one (l : List Nw) : ∀ u ∈ l.flatMap nwv, u.oneCell' = true := by
  intro u hu
  obtain ⟨y, _, hy⟩ := List.mem_flatMap.1 hu
  simp only [nwv, List.mem_cons, List.not_mem_nil, or_false] at hy
  rcases hy with rfl | rfl | rfl <;> rfl
theorem nw_new (w : World) (y : Nw) : ∀ j u, (nwv y)[j]? = some u → (w.alloc (.cells #[.string y.k, .string y.v, .bool y.g] 54)).cell? ((⟨w.heap.size, 0, none⟩ : Addr).add j) = some u := by
  intro j u hj
  have hr : Whole (w.alloc (.cells #[.string y.k, .string y.v, .bool y.g] 54)) w.heap.size (nwv y) 54 := World.alloc_heap_new w _
  rw [show (⟨w.heap.size, 0, none⟩ : Addr).add j = ⟨w.heap.size, j, none⟩ by unfold Addr.add; split <;> simp_all, hr.cell]
  exact hj
theorem narg_row {base : Nat} {w : World} {a : Option Addr} {n cap : Nat} {l : List Nw} (hn : n = l.length) (h : w.ownsRow base 54 3 (.slice a n cap) n (l.flatMap nwv)) : NArg w a n cap l := by
  rcases h.2 with ⟨e, h0⟩ | ⟨g, cap', cur, e, _, hgg, hnc, hcm, hcs, htake⟩
  · cases e
    have : l = [] := List.eq_nil_of_length_eq_zero (by omega)
    subst this
    exact ⟨rfl, Nat.le_refl _, by decide, .inl rfl⟩
  · cases e
    refine ⟨hn, hnc, hcm, .inr ⟨g, 0, rfl, fun i y hy => ?_⟩⟩
    have hil := (List.getElem?_eq_some_iff.1 hy).1
    have hw : Whole w g cur.toList 54 := by unfold Whole; simpa using hgg
    have hc : ∀ j, j < 3 → w.cell? ⟨g, 0 + i * 3 + j, none⟩ = (nwv y)[j]? := fun j hj => by
      rw [hw.cell, ← flat_get nwv 3 nwv_len j hj l i y hy, ← htake, List.getElem?_take, if_pos (by omega), Nat.zero_add]
    exact ⟨hc 0 (by omega), hc 1 (by omega), hc 2 (by omega)⟩
end Go.Proofs.Ytpflacbinankmaa.Bt
