/-
  leaves: the function value that tells them; what they tell of a list; told.
  Range: what lies in its boxes while it goes on.
-/
import Derived.Test.YtlfgeanafidopaaQS
import Derived.Test.YtlfgeanafidopaaQQ
import Derived.Maps.AppendAt
import Derived.RangeFuncBox
namespace Go.Proofs.Ytlfgeanafidopaa.Bt
open Go.RowKit Go.Shelf
attribute [local go_sem] Oper.semAt_some
set_option maxRecDepth 10000

/-- What a leaf tells from a key on. -/
def entsFrom (k : K) (c : En 1) : List KV := (c.l.map En.pair).drop (lb k ((c.l.map (slE 0)).map Sl.k))
def accL (k : K) (l : List (En 1)) : List KV := l.flatMap (entsFrom k)
theorem accL_append (k : K) (a b : List (En 1)) : accL k (a ++ b) = accL k a ++ accL k b := List.flatMap_append
theorem flats_leaf (c : En 1) : flats (abs 1 c).l = c.l.map En.pair := by
  rw [abs_l, flats_zero, List.map_map]
  exact List.map_congr_left fun e _ => rfl
theorem ents_filter {k : K} {c : En 1} (hs : Srt (flats (abs 1 c).l)) : entsFrom k c = (flats (abs 1 c).l).filter fun x => !klt x.1 k := by
  have e : (c.l.map (slE 0)).map Sl.k = (flats (abs 1 c).l).map Prod.fst := by rw [flats_leaf, List.map_map, List.map_map]; exact List.map_congr_left fun e _ => rfl
  unfold entsFrom
  rw [e, ← flats_leaf]
  generalize flats (abs 1 c).l = L at *
  obtain ⟨h1, h2⟩ := lb_parts (k := k) hs
  conv => rhs; rw [← List.take_append_drop (lb k (L.map Prod.fst)) L, List.filter_append]
  rw [List.filter_eq_nil_iff.2 (fun x hx => by rw [h1 x hx]; simp), List.nil_append, List.filter_eq_self.2 (fun x hx => by rw [h2 x hx]; rfl)]
theorem lvs_acc {F : Nat} (hF : 4 ≤ F) {w : World} (k : K) : ∀ {n : Nat} {t : En (n + 1)}, Nod F w n t → accL k (lvs k n t) = (flats (abs (n + 1) t).l).filter fun x => !klt x.1 k
  | 0, t, h => by
    have e : lvs k 0 t = [t] := rfl
    rw [e]
    show [t].flatMap (entsFrom k) = _
    rw [List.flatMap_singleton]
    exact ents_filter h.good.srt
  | n + 1, t, h => by
    have e : lvs k (n + 1) t = (t.l.drop (place k (abs (n + 2) t).l)).flatMap (lvs k n) := rfl
    have hp := place_lt k (abs (n + 2) t).l (by rw [abs_l, List.length_map]; exact h.pos (by omega))
    obtain ⟨d, hd⟩ : ∃ d, (abs (n + 2) t).l[place k (abs (n + 2) t).l]? = some d := ⟨_, List.getElem?_eq_getElem hp⟩
    obtain ⟨o1, _⟩ := located (h.good.hd hF) h.good.srt hd
    rw [e]
    conv => rhs; rw [← List.take_append_drop (place k (abs (n + 2) t).l) (abs (n + 2) t).l, flats_append, List.filter_append, List.filter_eq_nil_iff.2 (fun x hx => by rw [o1 x hx]; simp), List.nil_append]
    generalize place k (abs (n + 2) t).l = p at *
    rw [abs_l, ← List.map_drop]
    have hk : ∀ d ∈ t.l.drop p, Nod F w n d := fun d hd => h.kid hF (List.mem_of_mem_drop hd)
    generalize t.l.drop p = ks at *
    clear hd o1 hp e
    induction ks with
    | nil => rfl
    | cons a r ih =>
      rw [List.flatMap_cons, accL_append, lvs_acc hF k (hk a (by simp)), ih (fun d hd => hk d (by simp [hd])), List.map_cons, flats_cons, List.filter_append, flat_succ]
/-- What Range tells of a list. -/
def okT (to : K) (x : KV) : Bool := to.toList.isEmpty || klt x.1 to
def rng (k to : K) (m : Nat) (L : List KV) : List KV := ((L.filter fun x => !klt x.1 k).takeWhile (okT to)).take m
theorem rng_stop {to : K} {m : Nat} {A : List KV} {x : KV} {rest : List KV} (h1 : ∀ y ∈ A, okT to y = true) (h2 : A.length ≤ m) (h3 : A.length = m ∨ okT to x = false) : ((A ++ x :: rest).takeWhile (okT to)).take m = A := by
  rw [List.takeWhile_append_of_pos h1]
  rcases h3 with h3 | h3
  · rw [List.take_append_of_le_length (by omega), List.take_of_length_le (by omega)]
  · rw [List.takeWhile_cons_of_neg (by simp [h3]), List.append_nil, List.take_of_length_le h2]
theorem rng_all {to : K} {m : Nat} {A : List KV} (h1 : ∀ y ∈ A, okT to y = true) (h2 : A.length ≤ m) : (A.takeWhile (okT to)).take m = A := by
  have e := List.takeWhile_append_of_pos (l₂ := []) h1
  rw [List.append_nil, List.takeWhile_nil, List.append_nil] at e
  rw [e, List.take_of_length_le h2]

set_option maxHeartbeats 2000000 in
theorem leaves1_in {F : Nat} (hF : 4 ≤ F) (hF2 : F ≤ 64) (k : K) (w0 : World) (m n p Bt Bk l : Nat) (t : En (n + 1)) (hN : Nod F w0 n t) (J Jx : List (Lf F w0) → World → Prop) (hJd : ∀ pre W W', J pre W → Below W.heap.size W W' → J pre W')
    (hY : ∀ pre (x : Lf F w0) W, J pre W → pre.length < (lvs k n t).length → YieldAt Fence.wide (m - 1) Try.prog l #[.pointer (some ⟨x.1.h.p, 0, none⟩)] W fun e W' =>
      (e = .returned (.bool true) ∧ J (pre ++ [x]) W' ∧ Below w0.heap.size W W') ∨ (e = .returned (.bool false) ∧ Jx (pre ++ [x]) W'))
    (W : World) (hW : Below w0.heap.size w0 W) (hBt : W.cell? ⟨Bt, 0, none⟩ = some (.pointer (some ⟨p, 0, none⟩))) (hBk : W.cell? ⟨Bk, 0, none⟩ = some (.string k)) (hroot : w0.cell? ⟨p, 2, none⟩ = some (.pointer (some ⟨t.h.p, 0, none⟩))) (h0 : J [] W) :
    CallsIn Fence.wide m Try.prog 57 #[.func (.yield l) #[] #[], .pointer (some ⟨Bt, 0, none⟩), .pointer (some ⟨Bk, 0, none⟩)] W fun e W' => (∃ v, e = .returned v) ∧
      ((∃ ys, lfs ys = lvs k n t ∧ J ys W') ∨ (∃ pre, lfs pre <+: lvs k n t ∧ Jx pre W')) := by
  have hr : W.cell? ⟨p, 2, none⟩ = some (.pointer (some ⟨t.h.p, 0, none⟩)) := (hW.cell (p := ⟨p, 2, none⟩) (World.block_lt_of_cell? w0 _ hroot)).trans hroot
  obtain ⟨xs, hxs⟩ := to_lfs (F := F) (w := w0) (lvs k n t) (lvs_leaf hF k hN)
  have HP : Hid (∀ X, Below W.heap.size W X → CallsIn Fence.wide (m - 1) Try.prog 58 #[.pointer (some ⟨t.h.p, 0, none⟩), .string k, .func (.yield l) #[] #[]] X fun e W' => ∃ b, e = .returned (.bool b) ∧ Hid ((∃ ys, lfs ys = lvs k n t ∧ J ys W') ∨ (∃ pre, lfs pre <+: lvs k n t ∧ Jx pre W'))) := fun X hX => by
    refine (walk_in hF hF2 k w0 l (lvs k n t).length J Jx hJd (fun m pre x W hj hl => YieldAt.any m (hY pre x W hj hl)) n (m - 1) t [] xs X hN (hW.trans (hX.mono hW.size)) (hJd _ _ _ h0 hX) hxs (by rw [← hxs, lfs_len]; simp)).mono ?_
    rintro e W' (⟨rfl, h1, h2⟩ | ⟨rfl, q, h1, h2⟩)
    · exact ⟨true, rfl, .inl ⟨xs, hxs, h1⟩⟩
    · refine ⟨false, rfl, .inr ⟨q, ?_, h2⟩⟩
      rw [← hxs]
      obtain ⟨r, rfl⟩ := h1
      exact ⟨lfs r, (lfs_append q r).symm⟩
  clear hN hJd hY hxs h0 hroot hW
  refine callsIn_of_wp Try.func57 rfl trivial ?_ rfl
  simp only [Try.ntmps57, List.size_toArray, List.length_cons, List.length_nil, Nat.reduceAdd, Nat.reduceSub, Array.replicate_succ, Array.replicate_zero, List.push_toArray, List.append_toArray, List.nil_append, List.cons_append]
  gi_wp2
  gi_region_with (refine ⟨trivial, (fun h => by cases h), ?_⟩; gi_at_call 58; refine (HP.out _ (by first | exact Below.refl _ _ | exact below_drawn W 1 | exact below_drawn W 2)).mono ?_; rintro e W1 ⟨b, rfl, HR⟩)
  all_goals gi_wp2
  all_goals go_end0
  all_goals exact ⟨⟨_, rfl⟩, HR.out⟩
theorem leaves_stops {F : Nat} (hF : 4 ≤ F) (hF2 : F ≤ 64) (k : K) (w0 : World) (m n p Bt Bk : Nat) (t : En (n + 1)) (hN : Nod F w0 n t) (hroot : w0.cell? ⟨p, 2, none⟩ = some (.pointer (some ⟨t.h.p, 0, none⟩))) (w : World) (hw : Below w0.heap.size w0 w) (hBt : w.cell? ⟨Bt, 0, none⟩ = some (.pointer (some ⟨p, 0, none⟩))) (hBk : w.cell? ⟨Bk, 0, none⟩ = some (.string k)) :
    SeqStopsK Fence.wide m Try.prog 57 #[.pointer (some ⟨Bt, 0, none⟩), .pointer (some ⟨Bk, 0, none⟩)] (fun x : Lf F w0 => #[.pointer (some ⟨x.1.h.p, 0, none⟩)]) (Below w0.heap.size) (fun ys => lfs ys = lvs k n t) (fun pre => lfs pre <+: lvs k n t) (lvs k n t).length w := fun l J Jx W hW hJ _ hY h0 =>
  leaves1_in hF hF2 k w0 m n p Bt Bk l t hN J Jx (fun pre W W' h hb => hJ pre W W' none h (below_grown hb) (fun r e => by cases e)) hY W (hw.trans (hW.mono hw.size)) ((hW.cell (p := ⟨Bt, 0, none⟩) (World.block_lt_of_cell? w _ hBt)).trans hBt) ((hW.cell (p := ⟨Bk, 0, none⟩) (World.block_lt_of_cell? w _ hBk)).trans hBk) hroot h0
set_option maxHeartbeats 1000000 in
theorem leaves_any (p : Nat) (k : K) (w : World) :
    Calls Try.prog 36 #[.pointer (some ⟨p, 0, none⟩), .string k] w fun e w' => e = .returned (.func (.func 57) #[] #[.pointer (some ⟨w.heap.size, 0, none⟩), .pointer (some ⟨w.heap.size + 1, 0, none⟩)]) ∧ w' = (w.alloc (.cells #[.pointer (some ⟨p, 0, none⟩)] 24)).alloc (.cells #[.string k] 9) := by
  go_enter Try.func36, Try.ntmps36
  go_wp2
  go_ret
  exact ⟨rfl, rfl⟩
set_option maxHeartbeats 1000000 in
theorem told_any (k v : K) (q : Option Addr) (w : World) :
    Calls Try.prog 38 #[.agg #[.string k, .string v, .pointer q]] w fun e w' => e = .returned (.agg #[.string k, .string v, .bool false]) ∧ Below w.heap.size w w' := by
  go_enter Try.func38, Try.ntmps38
  go_wp2
  refine bodyPost_ret (v := .agg #[.string k, .string v, .bool false]) ?_ rfl ⟨rfl, ?_⟩
  · simp [results, Try.f38, go_sem]
  · have hb := (below_new w (.cells #[.string k, .string v, .pointer q] 77))
    have hs : (w.alloc (.cells #[.string k, .string v, .pointer q] 77)).heap.size = w.heap.size + 1 := World.size_alloc _ _
    first
    | exact hb.alloc (by omega) _
    | exact (((hb.alloc (by omega) _).setCell (p := ⟨w.heap.size + 1, 0, none⟩) (by simp) _).setCell (p := ⟨w.heap.size + 1, 1, none⟩) (by simp) _).setCell (p := ⟨w.heap.size + 1, 2, none⟩) (by simp) _
end Go.Proofs.Ytlfgeanafidopaa.Bt
namespace Go.Proofs.Ytlfgeanafidopaa.Bt
open Go.RowKit Go.Shelf

def ndv (x : KV) : List Value := [.string x.1, .string x.2, .bool false]
theorem ndv_len (x : KV) : (ndv x).length = 3 := rfl
theorem ndv_one (l : List KV) : ∀ u ∈ l.flatMap ndv, u.oneCell' = true := by
  intro u hu
  obtain ⟨s, _, hs⟩ := List.mem_flatMap.1 hu
  simp only [ndv, List.mem_cons, List.not_mem_nil, or_false] at hs
  rcases hs with rfl | rfl | rfl <;> rfl
theorem infoNd : (Try.prog.info? 54).map (fun i => (i.zero, i.size, i.bytes)) = some (some (.agg #[.string ⟨#[]⟩, .string ⟨#[]⟩, .bool false]), 3, 40) := by kernel_rfl
/-- A list of nodes of one's own. -/
def Told (w w' : World) (v : Value) (l : List KV) : Prop := w'.ownsRow w.heap.size 54 3 v l.length (l.flatMap ndv) ∧ Below w.heap.size w w'
structure St (w : World) (k to : K) (most : Int) (acc : List KV) (W : World) : Prop where
  b0 : Boxed W w.heap.size 9 (.string k)
  b1 : Boxed W (w.heap.size + 1) 9 (.string to)
  b2 : Boxed W (w.heap.size + 1 + 1) 3 (.int .i64 most)
  b3 : Boxed W (w.heap.size + 1 + 1 + 1) 22 (.slice none 0 0)
  row : ∃ v, Boxed W (w.heap.size + 1 + 1 + 1 + 1) 22 v ∧ W.ownsRow w.heap.size 54 3 v acc.length (acc.flatMap ndv)
  below : Below w.heap.size w W
/-- What Range answers lies in its box. -/
structure Out (w : World) (l : List KV) (W : World) : Prop where
  row : ∃ v, Boxed W (w.heap.size + 1 + 1 + 1) 22 v ∧ W.ownsRow w.heap.size 54 3 v l.length (l.flatMap ndv)
  below : Below w.heap.size w W
theorem own_slice {W : World} {base : Nat} {e : TypeId} {size : Nat} {v : Value} {k : Nat} {xs : List Value} (h : W.ownsRow base e size v k xs) : ∃ a cap, v = .slice a k cap := by
  rcases h.2 with ⟨rfl, h0⟩ | ⟨g, cap, _, rfl, _⟩
  · exact ⟨none, 0, by rw [h0]⟩
  · exact ⟨_, cap, rfl⟩
theorem ne_cells {W : World} {B : Nat} {t : TypeId} {v : Value} {row : Option Nat} (h : Boxed W B t v) (hr : ∀ r, row = some r → ∃ o : Obj, W.heap[r]? = some o ∧ o.isCells = false) : some B ≠ row := fun e => by
  obtain ⟨o, ho, hc⟩ := hr B e.symm
  rw [show W.heap[B]? = _ from h] at ho; cases ho; cases hc
theorem own_ne {W : World} {base : Nat} {e : TypeId} {size : Nat} {v : Value} {k : Nat} {xs : List Value} (h : W.ownsRow base e size v k xs) {row : Option Nat} (hr : ∀ r, row = some r → ∃ o : Obj, W.heap[r]? = some o ∧ o.isCells = false) : v.ownBlock = none ∨ v.ownBlock ≠ row := by
  rcases h.2 with ⟨rfl, _⟩ | ⟨g, cap, cur, rfl, _, hgb, _⟩
  · exact .inl rfl
  · refine .inr fun e' => ?_
    obtain ⟨o, ho, hc⟩ := hr g (by simpa [Value.ownBlock] using e'.symm)
    rw [hgb] at ho; cases ho; cases hc
theorem St.own (w : World) (k to : K) (most : Int) {β : Type} (acc : β → List KV) (D : Nat) (hD : w.heap.size ≤ D) : OwnFrom D (fun (s : β) W => St w k to most (acc s) W) := by
  intro s W W' row h hg hr
  have hr2 := fun r e => (hr r e).2
  obtain ⟨v, hv, ho⟩ := h.row
  refine ⟨h.b0.kept hg (ne_cells h.b0 hr2), h.b1.kept hg (ne_cells h.b1 hr2), h.b2.kept hg (ne_cells h.b2 hr2), h.b3.kept hg (ne_cells h.b3 hr2), ⟨v, hv.kept hg (ne_cells hv hr2), ho.kept hg (own_ne ho hr2)⟩, ?_⟩
  exact h.below.grown hg (h.below.size) (fun k e => Nat.le_trans hD (hr k e).1)
theorem Out.own (w : World) {β : Type} (l : β → List KV) (D : Nat) (hD : w.heap.size ≤ D) : OwnFrom D (fun (s : β) W => Out w (l s) W) := by
  intro s W W' row h hg hr
  have hr2 := fun r e => (hr r e).2
  obtain ⟨v, hv, ho⟩ := h.row
  refine ⟨⟨v, hv.kept hg (ne_cells hv hr2), ho.kept hg (own_ne ho hr2)⟩, ?_⟩
  exact h.below.grown hg (h.below.size) (fun k e => Nat.le_trans hD (hr k e).1)
theorem St.later {w : World} {k to : K} {most : Int} {acc : List KV} {W W' : World} (h : St w k to most acc W) (hb : Below W.heap.size W W') : St w k to most acc W' :=
  St.own w k to most (β := Unit) (fun _ => acc) w.heap.size (Nat.le_refl _) () W W' none h (below_grown hb) (fun r e => by cases e)
theorem keeps_later {W W' : World} (hb : Below W.heap.size W W') : KeepsOthers W W' := KeepsOthers.of_grownBy (below_grown hb) (fun j o e _ => by cases e)
/-- One more is told. -/
theorem St.push {w : World} {k to : K} {most : Int} {acc : List KV} {W X w5 : World} {v v' : Value} {x : KV} (h : St w k to most acc W) (hX : Below W.heap.size W X) (hv : Boxed W (w.heap.size + 1 + 1 + 1 + 1) 22 v) (ho : W.ownsRow w.heap.size 54 3 v acc.length (acc.flatMap ndv))
    (ho' : w5.ownsRow w.heap.size 54 3 v' (acc.length + 1) (acc.flatMap ndv ++ ndv x)) (hg : X.grownBy w5 v.ownBlock) :
    w5.cell? ⟨w.heap.size + 1 + 1 + 1 + 1, 0, none⟩ = some v ∧ w5.frozen? ⟨w.heap.size + 1 + 1 + 1 + 1, 0, none⟩ = false ∧ St w k to most (acc ++ [x]) (w5.setCell ⟨w.heap.size + 1 + 1 + 1 + 1, 0, none⟩ v') ∧ KeepsOthers W (w5.setCell ⟨w.heap.size + 1 + 1 + 1 + 1, 0, none⟩ v') ∧ Below w.heap.size W (w5.setCell ⟨w.heap.size + 1 + 1 + 1 + 1, 0, none⟩ v') := by
  have hgX := below_grown hX
  have hs := h.below.size
  have hvX : Boxed X (w.heap.size + 1 + 1 + 1 + 1) 22 v := hv.kept hgX (by simp)
  have hoX : X.ownsRow w.heap.size 54 3 v acc.length (acc.flatMap ndv) := ho.kept hgX (own_ne ho (row := none) (fun r e => by cases e))
  have key : ∀ {B t u}, t ≠ 54 → Boxed W B t u → Boxed w5 B t u := fun ht hb => (hb.kept hgX (by simp)).kept hg ((hb.kept hgX (by simp)).not_row ht hoX)
  have h4 := key (by decide) hv
  have hlo : ∀ j, v.ownBlock = some j → w.heap.size ≤ j := fun j ej => by
    rcases ho.2 with ⟨rfl, _⟩ | ⟨g, cap, cur, rfl, hb, _, _⟩
    · simp [Value.ownBlock] at ej
    · obtain rfl : g = j := by simpa [Value.ownBlock] using ej
      exact hb
  have hbel : Below w.heap.size W (w5.setCell ⟨w.heap.size + 1 + 1 + 1 + 1, 0, none⟩ v') := ((hX.mono hs).grown hg (Nat.le_trans hs hX.size) hlo).setCell (p := ⟨w.heap.size + 1 + 1 + 1 + 1, 0, none⟩) (by show w.heap.size ≤ w.heap.size + 1 + 1 + 1 + 1; omega) v'
  refine ⟨h4.cell, h4.frozen, ⟨(key (by decide) h.b0).other (by omega) _, (key (by decide) h.b1).other (by omega) _, (key (by decide) h.b2).other (by omega) _, (key (by decide) h.b3).other (by omega) _, ⟨v', h4.set v', ?_⟩, h.below.trans hbel⟩, ?_, hbel⟩
  · rw [List.length_append, List.flatMap_append, List.flatMap_singleton]
    exact ho'.kept (grownBy_setCell' w5 _ v') (.inr (h4.not_row (by decide) ho').symm)
  · refine ((keeps_later hX).trans (KeepsOthers.of_grownBy hg fun j o ej hj => ?_)).trans (KeepsOthers.setCell _ _ _)
    rcases hoX.2 with ⟨rfl, _⟩ | ⟨g, cap, cur, rfl, _, hgb, _⟩
    · simp [Value.ownBlock] at ej
    · obtain rfl : g = j := by simpa [Value.ownBlock] using ej
      rw [hgb] at hj; cases hj; rfl
/-- .. and no more. -/
theorem St.out {w : World} {k to : K} {most : Int} {acc : List KV} {W : World} {v : Value} (h : St w k to most acc W) (ho : W.ownsRow w.heap.size 54 3 v acc.length (acc.flatMap ndv)) :
    Out w acc (W.setCell ⟨w.heap.size + 1 + 1 + 1, 0, none⟩ v) ∧ KeepsOthers W (W.setCell ⟨w.heap.size + 1 + 1 + 1, 0, none⟩ v) :=
  ⟨⟨⟨v, h.b3.set v, ho.kept (grownBy_setCell' W _ v) (.inr (h.b3.not_row (by decide) ho).symm)⟩, h.below.setCell (p := ⟨w.heap.size + 1 + 1 + 1, 0, none⟩) (by show w.heap.size ≤ w.heap.size + 1 + 1 + 1; omega) v⟩, KeepsOthers.setCell _ _ _⟩
theorem nd_new (w : World) (x : KV) : ∀ j u, (ndv x)[j]? = some u → (w.alloc (.cells #[.string x.1, .string x.2, .bool false] 54)).cell? ((⟨w.heap.size, 0, none⟩ : Addr).add j) = some u := by
  intro j u hj
  have e : (⟨w.heap.size, 0, none⟩ : Addr).add j = ⟨w.heap.size, j, none⟩ := by unfold Addr.add; split <;> simp_all
  rw [e]
  exact (Row.new w (ndv x) 54).cell hj
end Go.Proofs.Ytlfgeanafidopaa.Bt
