/-
  The numbers of the blocks that are in some states.
  Blocks that are freed one behind the other.
  The Counts of Spoilt blocks as their first pages tell them.
  Format of a chip.
-/
import Derived.Test.YtkfecngkdlajgaaGreatDoorKM
import Derived.Test.YtkfecngkdlajgaaGreatDoorCShelf
import Derived.Laws.AppendOwn
import Derived.Laws.AppendOwnNone
namespace Go.Proofs.YtkfecngkdlajgaaGreatDoor
open Go.RowKit
set_option maxRecDepth 10000

/-- Numbers that lie in memory. -/
def IRow (w : World) (a : Option Addr) (l : List Int) : Prop := l = [] ∨ ∃ b off, a = some ⟨b, off, none⟩ ∧ ∀ (i : Nat) x, l[i]? = some x → w.cell? ⟨b, off + i, none⟩ = some (.int .i64 x)
def intV (x : Int) : Value := .int .i64 x
/-- The numbers of the blocks in some states. -/
def amongF (zs : List Int) : Nat → List Bl → List Int
  | _, [] => []
  | k, x :: l => if zs.contains x.st then (k : Int) :: amongF zs (k + 1) l else amongF zs (k + 1) l
theorem amongF_snoc (zs : List Int) : ∀ (l : List Bl) (k : Nat) (x : Bl), amongF zs k (l ++ [x]) = amongF zs k l ++ (if zs.contains x.st then [((k + l.length : Nat) : Int)] else [])
  | [], k, x => by simp [amongF]
  | y :: l, k, x => by
    rw [List.cons_append]
    unfold amongF
    rw [amongF_snoc zs l (k + 1) x, List.length_cons, show k + 1 + l.length = k + (l.length + 1) by omega]
    split <;> simp
theorem amongF_take (zs : List Int) {l : List Bl} {k : Nat} {x : Bl} (h : l[k]? = some x) : amongF zs 0 (l.take (k + 1)) = amongF zs 0 (l.take k) ++ (if zs.contains x.st then [(k : Int)] else []) := by
  obtain ⟨hk, e⟩ := List.getElem?_eq_some_iff.1 h
  rw [List.take_add_one, h]
  show amongF zs 0 (l.take k ++ [x]) = _
  rw [amongF_snoc, List.length_take, Nat.min_eq_left (Nat.le_of_lt hk), Nat.zero_add]
theorem infoInt : (Tryz.prog.info? 3).map (fun i => (i.zero, i.size, i.bytes)) = some (some (.int .i64 0), 1, 8) := by kernel_rfl
theorem wpList_append_int {w : World} {ops : Array Oper} {rest : List Oper} {o : Oper} {a : Act} {Q : Exit → Act → World → Prop} (hgd : o.guard = none) (s x : Operand)
    (ho : o.op = .call { callee := .builtin .append, args := #[s, x], argTypes := #[96, 96] })
    (base : Nat) (v : Value) (n : Nat) (xs : List Value) (hs : a.eval s = v) (hown : w.ownsRow base 3 1 v n xs)
    (ad : Addr) (c : Nat) (u : Int) (hx : a.eval x = .slice (some ad) 1 c) (hr : w.cell? (ad.add 0) = some (intV u))
    (h63 : n + 1 ≤ maxLen) (hbytes : (n + 1) * 8 ≤ 140737488355328) (hbase : base ≤ w.heap.size)
    (h : ∀ v' w', w'.ownsRow base 3 1 v' (n + 1) (xs ++ [intV u]) → w.grownBy w' v.ownBlock → wpList Tryz.prog ops Q rest (a.put o.dst v') w') : wpList Tryz.prog ops Q (o :: rest) a w := by
  obtain ⟨i0, hi, hz0, hz1, hz2⟩ := info_parts infoInt
  exact wpList_append_own w hgd s x 96 ho base 3 i0 (.int .i64 0) 1 8 Tryz.underlying96 hi hz0 hz1 hz2 rfl (by omega) v n xs hs hown ad 1 c [intV u] hx rfl
    (fun j z hj => by
      have hj0 : j = 0 := by have := (List.getElem?_eq_some_iff.1 hj).1; simp at this; omega
      subst hj0
      simp at hj; subst hj
      exact hr) (fun z hz => by simp at hz; subst hz; rfl) h63 hbytes hbase
    (fun v' w' h1 h2 _ => h v' w' h1 h2)
theorem new_int (w : World) (u : Int) (t : TypeId) : (w.alloc (.cells #[.int .i64 u] t)).cell? ((⟨w.heap.size, 0, none⟩ : Addr).add 0) = some (intV u) := ((Row.new w [.int .i64 u] t).cell (i := 0) rfl : _)
/-- Numbers that a call has made. -/
def OwnI (base : Nat) (w : World) (v : Value) (l : List Int) : Prop := w.ownsRow base 3 1 v l.length (l.map intV)
theorem OwnI.later {base : Nat} {w w' : World} {v : Value} {l : List Int} (h : OwnI base w v l) (hb : Below w.heap.size w w') : OwnI base w' v l := owns_later h hb
theorem OwnI.form {base : Nat} {w : World} {v : Value} {l : List Int} (h : OwnI base w v l) : ∃ a cap, v = .slice a l.length cap ∧ IRow w a l ∧ (∀ b o, a = some ⟨b, o, none⟩ → base ≤ b) ∧ (a = none → l = []) := by
  rcases h.2 with ⟨rfl, h0⟩ | ⟨q, cap, cur, rfl, hbg, hgg, hnc, hcm, hcs, htake⟩
  · exact ⟨none, 0, by rw [h0], .inl (List.eq_nil_of_length_eq_zero h0), fun b o e => (by cases e), fun _ => List.eq_nil_of_length_eq_zero h0⟩
  · refine ⟨_, cap, rfl, .inr ⟨q, 0, rfl, fun i x hx => ?_⟩, fun b o e => (by cases e; exact hbg), fun e => (by cases e)⟩
    have hi := (List.getElem?_eq_some_iff.1 hx).1
    have := h.cellAt i (by simpa using hi)
    rw [Nat.zero_add, this, List.getElem?_map, hx]
    rfl
theorem OwnI.block {base : Nat} {w : World} {v : Value} {l : List Int} (h : OwnI base w v l) : ∀ q, v.ownBlock = some q → base ≤ q := by
  intro q hq
  rcases h.2 with ⟨rfl, h0⟩ | ⟨g, cap, cur, rfl, hbg, _⟩
  · simp [Value.ownBlock] at hq
  · simp [Value.ownBlock] at hq
    omega
/-- While the blocks are gone through. -/
structure Am (base : Nat) (w : World) (m : Mg) (c : CS) (wr : World) (v : Value) (l : List Int) : Prop where
  bel : Below w.heap.size w wr
  own : OwnI w.heap.size wr v l
set_option maxHeartbeats 4000000 in
theorem mamong_any {base : Nat} {w : World} {m : Mg} {c : CS} (h : MLies base w m c) (zs : List Int) (b cap : Nat) (hz : ∀ j, j < zs.length → w.cell? ⟨b, 0 + j, none⟩ = some (.int .i64 (zs.getD j 0))) (hz1 : zs.length ≤ 4) :
    Calls Tryz.prog 49 #[.pointer (some ⟨m.p, 0, none⟩), .slice (some ⟨b, 0, none⟩) zs.length cap] w fun e w' => ∃ v, e = .returned v ∧ OwnI w.heap.size w' v (amongF zs 0 m.bl) ∧ Below w.heap.size w w' := by
  obtain ⟨_, c1, _, _⟩ := h.cells
  have hgs := h.chip.good.gs
  have hlen := h.len
  have HM : Hid (∀ X, Below w.heap.size w X → MLies base X m c) := fun X hb => h.later hb
  have HC : Hid (∀ X (x : Int), Below w.heap.size w X → Calls Tryz.prog 89 #[.slice (some ⟨b, 0, none⟩) zs.length cap, .int .i64 x] X fun e w' => e = .returned (.bool (zs.contains x)) ∧ X = w') := fun X x hb => by
    refine (Tryz.slices_Contains_int b 0 zs.length cap zs x X (Nat.le_refl _) (by omega) (fun j hj => ?_)).mono ?_
    · have := hz j hj
      rw [hb.cell (p := ⟨b, 0 + j, none⟩) (World.block_lt_of_cell? w _ this)]
      exact this
    · rintro e w' ⟨rfl, rfl⟩
      exact ⟨by rw [List.take_length], rfl⟩
  have hl256 : m.bl.length ≤ 256 := by omega
  clear h hz hgs hlen
  go_enter Tryz.func49, Tryz.ntmps49
  go_wp2
  go_loopg [5, 13] m.bl.length (fun kx s5 s13 wr => ∃ (k : Nat) (v : Value), k + kx = m.bl.length ∧ v = s5 ∧ s13 = .int .i64 (k : Nat) ∧ Hid (Am base w m c wr v (amongF zs 0 (m.bl.take k))))
  case atStart => exact ⟨0, _, by omega, rfl, rfl, ⟨Below.refl _ _, World.ownsRow_nil w _ _ _⟩⟩
  case round =>
    obtain ⟨k, v, hk, rfl, rfl, HA⟩ := hrel
    by_cases hlt : k < m.bl.length
    · obtain ⟨x, hx⟩ : ∃ x, m.bl[k]? = some x := ⟨_, List.getElem?_eq_getElem hlt⟩
      have HT : Hid (amongF zs 0 (m.bl.take (k + 1)) = amongF zs 0 (m.bl.take k) ++ (if zs.contains x.st then [(k : Int)] else [])) := amongF_take zs hx
      obtain ⟨g0, g1, g2, g3, g4, g5⟩ := (HM.out wr HA.out.bel).blAt hx
      have n0 : ¬ (k : Int) < 0 := by omega
      have n1 : (k : Int) < (m.bl.length : Int) := by omega
      have hll : (amongF zs 0 (m.bl.take k)).length ≤ 256 := by
        have : ∀ (l : List Bl) (q : Nat), (amongF zs q l).length ≤ l.length := by
          intro l
          induction l with
          | nil => intro q; exact Nat.le_refl _
          | cons y l ih =>
            intro q
            unfold amongF
            split
            · have := ih (q + 1); simp; omega
            · have := ih (q + 1); simp; omega
        have := this (m.bl.take k) 0
        rw [List.length_take] at this
        omega
      obtain ⟨A, hA⟩ : ∃ A, A = amongF zs 0 (m.bl.take k) := ⟨_, rfl⟩
      rw [← hA] at HA HT hll
      obtain ⟨W2, hW2⟩ : ∃ W2, W2 = wr.alloc (.cells #[.int .i64 x.st, .int .i64 x.cnt, .int .i64 x.leb, .int .i64 x.used, .int .u64 x.seq, .bool x.closed] 156) := ⟨_, rfl⟩
      have hb2 : Below wr.heap.size wr W2 := by rw [hW2]; exact below_new wr _
      have HA2 : Hid (Am base w m c W2 v A) := ⟨Below.after HA.out.bel hb2, HA.out.own.later hb2⟩
      have kC := HC.out W2 x.st HA2.out.bel
      obtain ⟨q, hq⟩ : ∃ q, q = zs.contains x.st := ⟨_, rfl⟩
      rw [← hq] at kC HT
      clear hx hA hq hb2
      cases q with
      | true =>
        have kC2 := kC
        rw [hW2] at kC2
        have hs2 : W2.heap.size = wr.heap.size + 1 := by rw [hW2]; simp
        have HNew : Hid (((wr.alloc (.cells #[.int .i64 x.st, .int .i64 x.cnt, .int .i64 x.leb, .int .i64 x.used, .int .u64 x.seq, .bool x.closed] 156)).alloc (.cells #[.int .i64 (k : Int)] 3)).cell? ((⟨wr.heap.size + 1, 0, none⟩ : Addr).add 0) = some (intV (k : Int)) ∧ OwnI w.heap.size ((wr.alloc (.cells #[.int .i64 x.st, .int .i64 x.cnt, .int .i64 x.leb, .int .i64 x.used, .int .u64 x.seq, .bool x.closed] 156)).alloc (.cells #[.int .i64 (k : Int)] 3)) v A ∧ Below w.heap.size w ((wr.alloc (.cells #[.int .i64 x.st, .int .i64 x.cnt, .int .i64 x.leb, .int .i64 x.used, .int .u64 x.seq, .bool x.closed] 156)).alloc (.cells #[.int .i64 (k : Int)] 3))) := by
          rw [← hW2, ← hs2]
          exact ⟨new_int W2 k _, HA2.out.own.later (below_new _ _), Below.after HA2.out.bel (below_new _ _)⟩
        have HLn : Hid (A.length ≤ 256) := hll
        clear hll hs2
        go_wp2_with (first
          | (go_at_call 89; refine kC2.mono ?_; rintro e w3 ⟨rfl, rfl⟩)
          | (at_builtin; refine wpList_append_int rfl (.tmp 22) (.tmp 24) rfl w.heap.size v A.length (A.map intV) rfl HNew.out.2.1 ⟨wr.heap.size + 1, 0, none⟩ 1 (k : Int) rfl HNew.out.1 (by have := HLn.out; unfold maxLen; omega) (by have := HLn.out; omega) HNew.out.2.2.size ?_; intro v5 w5 hown hgrow; have HO5 : Hid (OwnI w.heap.size w5 v5 (A ++ [(k : Int)]) ∧ Below w.heap.size w w5) := ⟨by have := hown; unfold OwnI; rw [List.map_append, List.length_append]; exact this, HNew.out.2.2.grown hgrow HNew.out.2.2.size (fun q hq => HNew.out.2.1.block q hq)⟩; clear hown hgrow))
        go_roundg (m.bl.length - (k + 1))
        case measure => omega
        case rel => exact ⟨k + 1, v5, by omega, rfl, by go_num, ⟨HO5.out.2, by rw [HT.out]; exact HO5.out.1⟩⟩
      | false =>
        have kC2 := kC
        rw [hW2] at kC2
        rw [hW2] at HA2
        have HT2 : Hid (amongF zs 0 (m.bl.take (k + 1)) = A) := (by have := HT.out; simpa using this : amongF zs 0 (m.bl.take (k + 1)) = A)
        clear HT
        go_wp2_with (go_at_call 89; refine kC2.mono ?_; rintro e w3 ⟨rfl, rfl⟩)
        go_roundg (m.bl.length - (k + 1))
        case measure => omega
        case rel => exact ⟨k + 1, v, by omega, rfl, by go_num, by rw [HT2.out]; exact HA2⟩
    · have hkk : k = m.bl.length := by omega
      rw [hkk, List.take_length] at HA
      have n1 : ¬ (k : Int) < (m.bl.length : Int) := by omega
      obtain ⟨a, cc, rfl, _⟩ := HA.out.own.form
      clear hkk hlt hk
      go_wp2
      go_ret
      exact ⟨_, rfl, HA.out.own, HA.out.bel⟩
end Go.Proofs.YtkfecngkdlajgaaGreatDoor
namespace Go.Proofs.YtkfecngkdlajgaaGreatDoor
open Go.RowKit
set_option maxRecDepth 10000

noncomputable def clearM : List Nat → Mg → CS → Int × Mg × CS
  | [], m, c => (0, m, c)
  | n :: l, m, c => if (freeM m c n ((m.bl[n]?).getD zeroB).cnt.toNat).1 = 0 then clearM l (freeM m c n ((m.bl[n]?).getD zeroB).cnt.toNat).2.1 (freeM m c n ((m.bl[n]?).getD zeroB).cnt.toNat).2.2 else freeM m c n ((m.bl[n]?).getD zeroB).cnt.toNat
/-- Each of them can be freed. -/
def ClearV : List Nat → Mg → CS → Prop
  | [], _, _ => True
  | n :: l, m, c => (∃ (q : Nat) (o : Bl), m.bl[n]? = some o ∧ o.cnt = q ∧ q ≤ 2147483647) ∧ 64 ≤ c.gz ∧ (freeM m c n ((m.bl[n]?).getD zeroB).cnt.toNat).1 = 0 ∧ ClearV l (freeM m c n ((m.bl[n]?).getD zeroB).cnt.toNat).2.1 (freeM m c n ((m.bl[n]?).getD zeroB).cnt.toNat).2.2
theorem clearV_zero : ∀ (l : List Nat) (m : Mg) (c : CS), ClearV l m c → (clearM l m c).1 = 0
  | [], _, _, _ => rfl
  | n :: l, m, c, h => by
    unfold clearM
    rw [if_pos h.2.2.1]
    exact clearV_zero l _ _ h.2.2.2
/-- The loop over the blocks. -/
def ClGo (base : Nat) (w : World) (m : Mg) (c : CS) (X : Int × Mg × CS) (wr : World) (l : List Nat) : Prop := ∃ m1 c1, Ex base w m c wr m1 c1 ∧ X = clearM l m1 c1 ∧ ClearV l m1 c1
set_option maxHeartbeats 2000000 in
theorem mcleared_any {base : Nat} {w : World} {m : Mg} {c : CS} (h : MLies base w m c) (a : Option Addr) (cap : Nat) (l : List Nat) (hr : IRow w a (l.map fun x : Nat => (x : Int))) (hn : ∀ b o, a = some ⟨b, o, none⟩ → l ≠ [] → ¬ MFoot m c b) (hV : ClearV l m c) (hll : l.length ≤ 1000) :
    Calls Tryz.prog 48 #[.pointer (some ⟨m.p, 0, none⟩), .slice a l.length cap] w fun e w' => e = .returned (.tuple #[.pointer (some ⟨m.p, 0, none⟩), .int .i64 0]) ∧ Ex base w m c w' (clearM l m c).2.1 (clearM l m c).2.2 := by
  have HR : Hid (∀ X, Kept (MFoot m c) w X → IRow X a (l.map fun x : Nat => (x : Int))) := fun X hk => by
    rcases hr with e | ⟨b, off, e, hc⟩
    · exact .inl e
    · by_cases hl : l = []
      · exact .inl (by rw [hl]; rfl)
      · exact .inr ⟨b, off, e, fun i x hx => cell_kept hk (hn b off e hl) (hc i x hx)⟩
  have HM : Hid (MLies base w m c) := h
  have HV : Hid (ClearV l m c) := hV
  have HZ : Hid ((clearM l m c).1 = 0) := clearV_zero l m c hV
  obtain ⟨X, hX⟩ : ∃ X, X = clearM l m c := ⟨_, rfl⟩
  have HX : Hid (X = clearM l m c) := hX
  rw [← hX]
  clear h hr hn hV hX
  go_enter Tryz.func48, Tryz.ntmps48
  go_wp2
  go_loopg [11] l.length (fun kx s11 wr => ∃ k : Nat, k + kx = l.length ∧ s11 = .int .i64 (k : Nat) ∧ Hid (ClGo base w m c X wr (l.drop k)))
  case atStart => exact ⟨0, by omega, rfl, ⟨m, c, Ex.refl HM.out, HX.out, HV.out⟩⟩
  case round =>
    obtain ⟨k, hk, rfl, HG⟩ := hrel
    obtain ⟨m1, c1, hex, hX, hV⟩ := HG.out
    clear HG HV HX
    by_cases hlt : k < l.length
    · rw [List.drop_eq_getElem_cons hlt] at hX hV
      obtain ⟨n, hn⟩ : ∃ n, n = l[k] := ⟨_, rfl⟩
      rw [← hn] at hX hV
      obtain ⟨⟨q, o, ho, hoq, hq⟩, hgz, hz, hV2⟩ := hV
      unfold clearM at hX
      rw [if_pos hz, ho] at hX
      rw [ho] at hz hV2
      simp only [Option.getD_some, hoq, Int.toNat_natCast] at hX hz hV2
      have kf := mfree_any hex.ml n q o ho hoq hq hgz
      rw [hex.p] at kf
      obtain ⟨r, hr⟩ : ∃ r, r = freeM m1 c1 n q := ⟨_, rfl⟩
      have hrp : r.2.1.p = m1.p ∧ r.2.1.bb = m1.bb := by
        rw [hr]
        unfold freeM endM
        repeat' split
        all_goals exact ⟨rfl, rfl⟩
      rw [← hr] at kf hX hz hV2
      have hcell : ∃ b off, a = some ⟨b, off, none⟩ ∧ wr.cell? ⟨b, off + k, none⟩ = some (.int .i64 (n : Int)) := by
        rcases HR.out wr hex.kp with e | ⟨b, off, e, hc⟩
        · have : l = [] := by simpa using e
          rw [this] at hlt; simp at hlt
        · exact ⟨b, off, e, hc k n (by rw [List.getElem?_map, List.getElem?_eq_getElem hlt, hn]; rfl)⟩
      obtain ⟨b, off, rfl, hcl⟩ := hcell
      have HEx : Hid (Ex base w m c wr m1 c1) := hex
      have HH : Hid (X = clearM (l.drop (k + 1)) r.2.1 r.2.2 ∧ r.1 = 0 ∧ ClearV (l.drop (k + 1)) r.2.1 r.2.2 ∧ r.2.1.p = m1.p ∧ r.2.1.bb = m1.bb) := ⟨hX, hz, hV2, hrp⟩
      have n0 : ¬ (k : Int) < 0 := by omega
      have n1 : (k : Int) < (l.length : Int) := by omega
      clear hX hz hV2 hr hrp hex ho hoq hq hgz hn
      go_wp2_with (go_at_call 87; refine kf.mono ?_; rintro e w2 ⟨v, rfl, he, hl, hk2, hf⟩; rw [HH.out.2.1] at he; obtain rfl := he.nil; have HL : Hid (MLies base w2 r.2.1 r.2.2 ∧ Kept (MFoot m1 c1) wr w2 ∧ r.2.2.foot = c1.foot) := ⟨hl, hk2, hf⟩; clear he hl hk2 hf)
      go_roundg (l.length - (k + 1))
      case measure => omega
      case rel =>
        have hmf := MFoot_eq HEx.out.p HEx.out.bb HEx.out.ft
        exact ⟨k + 1, by omega, by go_num, ⟨r.2.1, r.2.2, ⟨HL.out.1, HH.out.2.2.2.1.trans HEx.out.p, HH.out.2.2.2.2.trans HEx.out.bb, HEx.out.kp.trans (hmf ▸ HL.out.2.1), HL.out.2.2.trans HEx.out.ft⟩, HH.out.1, HH.out.2.2.1⟩⟩
    · have hkk : k = l.length := by omega
      rw [hkk, List.drop_length] at hX
      have HH : Hid (X = (0, m1, c1) ∧ Ex base w m c wr m1 c1) := ⟨hX, hex⟩
      have n1 : ¬ (k : Int) < (l.length : Int) := by omega
      clear hX hex hV hkk hlt hk
      go_wp2
      refine bodyPost_ret (v := .tuple #[.pointer (some ⟨m.p, 0, none⟩), .int .i64 0]) ?_ rfl ⟨rfl, by rw [HH.out.1]; exact HH.out.2⟩
      simp [results, Tryz.f48, go_sem]
end Go.Proofs.YtkfecngkdlajgaaGreatDoor
namespace Go.Proofs.YtkfecngkdlajgaaGreatDoor
open Go.RowKit
set_option maxRecDepth 10000

theorem MLies.cnt {base : Nat} {w : World} {m : Mg} {c : CS} (h : MLies base w m c) {i : Nat} {o : Bl} (hi : m.bl[i]? = some o) (x : Int) : MLies base (w.setCell ⟨m.bb, i * 6 + 1, none⟩ (.int .i64 x)) (m.put i { o with cnt := x }) c := by
  refine h.wroteB ((Kept.refl (fun k => k = m.bb) w).setCell (p := ⟨m.bb, i * 6 + 1, none⟩) rfl _) rfl rfl rfl rfl rfl (by simp [Mg.put]) ?_
  have hil := (List.getElem?_eq_some_iff.1 hi).1
  have := h.row.set (i := i * 6 + 1) (.int .i64 x) (by rw [flat_len blCells 6 bl_len]; omega)
  rw [flat_set blCells 6 bl_len 1 (by omega) (.int .i64 x) { o with cnt := x } m.bl i o hi rfl] at this
  exact this
theorem MLies.cnt_same {base : Nat} {w : World} {m : Mg} {c : CS} (h : MLies base w m c) {i : Nat} {o : Bl} (hi : m.bl[i]? = some o) {x : Int} (hx : o.cnt = x) : MLies base (w.setCell ⟨m.bb, i * 6 + 1, none⟩ (.int .i64 x)) m c := by
  have := h.cnt hi x
  have e : m.put i { o with cnt := x } = m := by
    unfold Mg.put
    rw [← hx, set_self hi]
  rwa [e] at this
theorem amongF_mem (zs : List Int) : ∀ (l : List Bl) (k : Nat) (z : Int), z ∈ amongF zs k l → ∃ (i : Nat) (x : Bl), z = ((k + i : Nat) : Int) ∧ l[i]? = some x ∧ zs.contains x.st = true
  | [], _, _, h => by simp [amongF] at h
  | y :: l, k, z, h => by
    unfold amongF at h
    split at h
    · rename_i hy
      rcases List.mem_cons.1 h with rfl | h
      · exact ⟨0, y, rfl, rfl, hy⟩
      · obtain ⟨i, x, e, hx, h4⟩ := amongF_mem zs l (k + 1) z h
        exact ⟨i + 1, x, by rw [e]; omega, by simpa using hx, h4⟩
    · obtain ⟨i, x, e, hx, h4⟩ := amongF_mem zs l (k + 1) z h
      exact ⟨i + 1, x, by rw [e]; omega, by simpa using hx, h4⟩
/-- What lies on while the Counts are told. -/
structure Rc (base : Nat) (w : World) (m : Mg) (c : CS) (wr : World) : Prop where
  ml : MLies base wr m c
  kp : Kept (MFoot m c) w wr
set_option maxHeartbeats 4000000 in
theorem mrecount_any {base : Nat} {w : World} {m : Mg} {c : CS} (h : MLies base w m c) (hg : Hd.Glb w) (hgb : 0 < base) (hR : ∀ (i : Nat) o, m.bl[i]? = some o → o.st = 3 → o.cnt = (((Hd.parseC (c.read i 0).1).getD 0 : Nat) : Int)) :
    Calls Tryz.prog 47 #[.pointer (some ⟨m.p, 0, none⟩)] w fun e w' => e = .returned (.tuple #[]) ∧ Rc base w m c w' := by
  obtain ⟨W, hW⟩ : ∃ W, W = w.alloc (.cells #[.int .i64 3] 3) := ⟨_, rfl⟩
  have hb : Below w.heap.size w W := by rw [hW]; exact below_new w _
  have hz0 : W.cell? ⟨w.heap.size, 0, none⟩ = some (.int .i64 3) := by rw [hW]; exact (Row.new w [_] _).cell (i := 0) rfl
  have kA : Calls Tryz.prog 49 #[.pointer (some ⟨m.p, 0, none⟩), .slice (some ⟨w.heap.size, 0, none⟩) 1 1] W fun e w' => ∃ v, e = .returned v ∧ OwnI W.heap.size w' v (amongF [3] 0 m.bl) ∧ Below W.heap.size W w' := mamong_any (h.later hb) [3] w.heap.size 1 (fun j hj => by
    have : j = 0 := by simpa using hj
    subst this
    exact hz0) (by simp)
  have HM : Hid (∀ X, Below w.heap.size w X → MLies base X m c) := fun X hb => h.later hb
  have HG : Hid (∀ X, Kept (MFoot m c) w X → Hd.Glb X) := fun X hk => by
    have hnf : ¬ MFoot m c 0 := by
      rintro (e | e | e)
      · have := h.low.1; omega
      · have := h.low.2; omega
      · have := h.chip.low _ e; omega
    obtain ⟨x, hx⟩ := hg
    exact ⟨x, cell_kept hk hnf hx⟩
  have HR : Hid (∀ (i : Nat) o, m.bl[i]? = some o → o.st = 3 → o.cnt = (((Hd.parseC (c.read i 0).1).getD 0 : Nat) : Int)) := hR
  have HB : Hid (Below w.heap.size w W) := hb
  have hgs := h.chip.good.gs
  have hlen := h.len
  have hl256 : m.bl.length ≤ 256 := by omega
  clear h hg hgb hR hb hgs hlen
  go_enter Tryz.func47, Tryz.ntmps47
  go_wp2_with fail
  rw [← hW]
  clear hW
  obtain ⟨A, hA⟩ : ∃ A, A = amongF [3] 0 m.bl := ⟨_, rfl⟩
  rw [← hA] at kA
  have HAm : Hid (∀ (k : Nat) z, A[k]? = some z → ∃ (i : Nat) (x : Bl), z = (i : Int) ∧ m.bl[i]? = some x ∧ x.st = 3) := fun k z hz => by
    rw [hA] at hz
    obtain ⟨i, x, e, hx, h4⟩ := amongF_mem [3] m.bl 0 z (List.mem_of_getElem? hz)
    exact ⟨i, x, by rw [e, Nat.zero_add], hx, by simpa using h4⟩
  have hAl : A.length ≤ 256 := by
    rw [hA]
    have : ∀ (l : List Bl) (q : Nat), (amongF [3] q l).length ≤ l.length := by
      intro l
      induction l with
      | nil => intro q; exact Nat.le_refl _
      | cons y l ih =>
        intro q
        unfold amongF
        split
        · have := ih (q + 1); simp; omega
        · have := ih (q + 1); simp; omega
    have := this m.bl 0
    omega
  clear hA
  go_wp2_with (go_at_call 49; refine kA.mono ?_; rintro e w1 ⟨v, rfl, hown, hb1⟩; obtain ⟨a, cap, rfl, hIR, hge, hnil⟩ := hown.form; have HI : Hid (IRow w1 a A ∧ (∀ b o, a = some ⟨b, o, none⟩ → W.heap.size ≤ b) ∧ Below w.heap.size w w1) := ⟨hIR, hge, Below.after HB.out hb1⟩; clear hown hIR hge hnil hb1)
  go_loopg [10] A.length (fun kx s10 wr => ∃ k : Nat, k + kx = A.length ∧ s10 = .int .i64 (k : Nat) ∧ Hid (Rc base w m c wr ∧ Kept (MFoot m c) w1 wr))
  case atStart => exact ⟨0, by omega, rfl, ⟨⟨HM.out w1 HI.out.2.2, .of_below HI.out.2.2⟩, Kept.refl _ _⟩⟩
  case round =>
    obtain ⟨k, hk, rfl, HC⟩ := hrel
    by_cases hlt : k < A.length
    · obtain ⟨i, x, hz, hx, h3⟩ := HAm.out k A[k] (List.getElem?_eq_getElem hlt)
      have hcell : ∃ b off, a = some ⟨b, off, none⟩ ∧ wr.cell? ⟨b, off + k, none⟩ = some (.int .i64 (i : Int)) := by
        rcases HI.out.1 with e | ⟨b, off, e, hc⟩
        · rw [e] at hlt; simp at hlt
        · refine ⟨b, off, e, cell_kept HC.out.2 ?_ (by have := hc k A[k] (List.getElem?_eq_getElem hlt); rw [hz] at this; exact this)⟩
          have h1 := HI.out.2.1 b off e
          exact MFoot_new (HM.out w (Below.refl _ _)) (Nat.le_trans HB.out.size h1)
      obtain ⟨b, off, rfl, hcl⟩ := hcell
      have hml := HC.out.1.ml
      have d0 := hml.cells.1
      have hrd := read_any hml.chip (i : Nat) 0
      have HX : Hid (m.bl[i]? = some x ∧ x.cnt = (((Hd.parseC (c.read i 0).1).getD 0 : Nat) : Int) ∧ ∀ y ∈ (c.read i 0).1, y < 256) := ⟨hx, HR.out i x hx h3, read_lt hml.chip.good i 0⟩
      obtain ⟨R, hRR⟩ : ∃ R, R = c.read i 0 := ⟨_, rfl⟩
      rw [← hRR] at hrd HX
      have n0 : ¬ (k : Int) < 0 := by omega
      have n1 : (k : Int) < (A.length : Int) := by omega
      have i0 : ¬ (i : Int) < 0 := by omega
      have i1 : (i : Int) < (m.bl.length : Int) := by have := (List.getElem?_eq_some_iff.1 hx).1; omega
      clear hz hx h3 hml hRR
      go_wp2_with (go_at_call 85; refine hrd.mono ?_; rintro e w2 ⟨ar, kr, cr, rfl, hg2⟩; have hml2 := HC.out.1.ml.later hg2.below; have e1 := hml2.cells.2.1; have HC2 : Hid (Rc base w m c w2 ∧ Kept (MFoot m c) w1 w2) := ⟨⟨hml2, HC.out.1.kp.trans (.of_below hg2.below)⟩, HC.out.2.trans (.of_below hg2.below)⟩; have HL2 : Hid (Hd.Lies w2 ar kr cr R.1) := got_lies hg2 HX.out.2.2; clear hg2 hml2)
      have kP : Calls Tryz.prog 86 #[.slice ar kr cr] w2.drew (Hd.CPost w2.drew (Hd.parseC R.1)) := pc_any (HG.out _ (HC2.out.1.kp.trans (.of_below (below_drew' w2)))) (HL2.out.later (below_drew' w2))
      go_region_held3 (fun w' => w'.cell? ⟨m.p, 1, none⟩ = some (.slice (some ⟨m.bb, 0, none⟩) m.bl.length m.bcap)) (first | assumption | exact f2 _ | go_keep) (first
        | (go_at_call 86; refine kP.mono ?_; intro e w3 hp; obtain ⟨rfl, hb3⟩ := cpost_elim hp; have hb3' := Below.after (below_drew' w2) hb3; have hml3 := HC2.out.1.ml.later hb3'; have f1 := hml3.cells.2.1; have f2 := fun v => (cell_other (W := w3) (p := ⟨m.bb, i * 6 + 1, none⟩) (v := v) (B := m.p) (i := 1) hml3.ne).trans f1; obtain ⟨g0, g1, g2, g3, g4, g5⟩ := hml3.blAt HX.out.1; have fz := hml3.row.frozen; have HC3 : Hid (Rc base w m c w3 ∧ Kept (MFoot m c) w1 w3) := ⟨⟨hml3, HC2.out.1.kp.trans (.of_below hb3')⟩, HC2.out.2.trans (.of_below hb3')⟩; clear hp hb3 hb3' hml3))
      obtain ⟨W4, hW4⟩ : ∃ W4, W4 = w3.setCell ⟨m.bb, i * 6 + 1, none⟩ (.int .i64 (((Hd.parseC R.1).getD 0 : Nat) : Int)) := ⟨_, rfl⟩
      have HC4 : Hid (Rc base w m c W4 ∧ Kept (MFoot m c) w1 W4) := by
        rw [hW4]
        exact ⟨⟨HC3.out.1.ml.cnt_same HX.out.1 HX.out.2.1, HC3.out.1.kp.setCell (p := ⟨m.bb, i * 6 + 1, none⟩) (.inr (.inl rfl)) _⟩, HC3.out.2.setCell (p := ⟨m.bb, i * 6 + 1, none⟩) (.inr (.inl rfl)) _⟩
      rw [← hW4]
      clear hW4 f1 f2 g0 g1 g2 g3 g4 g5 fz
      go_wp2
      go_roundg (A.length - (k + 1))
      case measure => omega
      case rel => exact ⟨k + 1, by omega, by go_num, HC4⟩
    · have n1 : ¬ (k : Int) < (A.length : Int) := by omega
      go_wp2
      go_end0
      exact ⟨rfl, HC.out.1⟩
end Go.Proofs.YtkfecngkdlajgaaGreatDoor
namespace Go.Proofs.YtkfecngkdlajgaaGreatDoor
open Go.RowKit
set_option maxRecDepth 10000

theorem addr_add (b off j : Nat) : (⟨b, off, none⟩ : Addr).add j = ⟨b, off + j, none⟩ := by simp [Addr.add]
theorem OwnI.form2 {base : Nat} {w : World} {v : Value} {l : List Int} (h : OwnI base w v l) : ∃ a cap, v = .slice a l.length cap ∧ IRow w a l ∧ (∀ b o, a = some ⟨b, o, none⟩ → base ≤ b) ∧ (a = none → l.length = 0 ∧ cap = 0) ∧ l.length ≤ maxLen := by
  rcases h.2 with ⟨rfl, h0⟩ | ⟨q, cap, cur, rfl, hbg, hgg, hnc, hcm, hcs, htake⟩
  · exact ⟨none, 0, by rw [h0], .inl (List.eq_nil_of_length_eq_zero h0), fun b o e => (by cases e), fun _ => ⟨h0, rfl⟩, by rw [h0]; exact Nat.zero_le _⟩
  · refine ⟨_, cap, rfl, .inr ⟨q, 0, rfl, fun i x hx => ?_⟩, fun b o e => (by cases e; exact hbg), fun e => (by cases e), Nat.le_trans hnc hcm⟩
    have hi := (List.getElem?_eq_some_iff.1 hx).1
    have := h.cellAt i (by simpa using hi)
    rw [Nat.zero_add, this, List.getElem?_map, hx]
    rfl
theorem wpList_append_ints {w : World} {ops : Array Oper} {rest : List Oper} {o : Oper} {a : Act} {Q : Exit → Act → World → Prop} (hgd : o.guard = none) (s x : Operand)
    (ho : o.op = .call { callee := .builtin .append, args := #[s, x], argTypes := #[96, 96] })
    (base : Nat) (v : Value) (A : List Int) (hs : a.eval s = v) (hown : OwnI base w v A)
    (ao : Option Addr) (c : Nat) (B : List Int) (hx : a.eval x = .slice ao B.length c) (hr : IRow w ao B) (hnil : ao = none → B.length = 0 ∧ c = 0)
    (h63 : A.length + B.length ≤ 1000) (hbase : base ≤ w.heap.size)
    (h : ∀ v' w', OwnI base w' v' (A ++ B) → w.grownBy w' v.ownBlock → wpList Tryz.prog ops Q rest (a.put o.dst v') w') : wpList Tryz.prog ops Q (o :: rest) a w := by
  obtain ⟨i0, hi, hz0, hz1, hz2⟩ := info_parts infoInt
  have e : (A ++ B).length = A.length + B.length := List.length_append
  cases ao with
  | none =>
    obtain ⟨hb0, rfl⟩ := hnil rfl
    have hB : B = [] := List.eq_nil_of_length_eq_zero hb0
    subst hB
    refine wpList_append_own_none hgd s x 96 ho base 3 i0 1 Tryz.underlying96 hi v A.length (A.map intV) hs hown hx ?_
    exact h v w (by rw [List.append_nil]; exact hown) ⟨rfl, rfl, rfl, Nat.le_refl _, fun _ _ _ => rfl⟩
  | some ad =>
    refine wpList_append_own w hgd s x 96 ho base 3 i0 (.int .i64 0) 1 8 Tryz.underlying96 hi hz0 hz1 hz2 rfl (by omega) v A.length (A.map intV) hs hown ad B.length c (B.map intV) hx (by simp) ?_ ?_ (by unfold maxLen; omega) (by omega) hbase ?_
    · intro j z hj
      rw [List.getElem?_map] at hj
      rcases hr with e | ⟨b, off, e, hc⟩
      · rw [e] at hj; simp at hj
      · cases e
        rcases hq : B[j]? with _ | y
        · rw [hq] at hj; cases hj
        · rw [hq] at hj
          cases hj
          rw [show (⟨b, off, none⟩ : Addr).add j = ⟨b, off + j, none⟩ from addr_add b off j]
          exact hc j y hq
    · intro z hz
      obtain ⟨y, _, rfl⟩ := List.mem_map.1 hz
      rfl
    · intro v' w' h1 h2 _
      exact h v' w' (by unfold OwnI; rw [e, List.map_append]; exact h1) h2
theorem OwnI.low {base base' : Nat} {w : World} {v : Value} {l : List Int} (h : OwnI base w v l) (hb : base' ≤ base) : OwnI base' w v l := by
  refine ⟨h.1, ?_⟩
  rcases h.2 with e | ⟨q, cap, cur, e, hbg, rest⟩
  · exact .inl e
  · exact .inr ⟨q, cap, cur, e, Nat.le_trans hb hbg, rest⟩
/-- The numbers of the blocks in some states. -/
def amongN (zs : List Int) : Nat → List Bl → List Nat
  | _, [] => []
  | k, x :: l => if zs.contains x.st then k :: amongN zs (k + 1) l else amongN zs (k + 1) l
theorem amongN_map (zs : List Int) : ∀ (l : List Bl) (k : Nat), (amongN zs k l).map (fun x : Nat => (x : Int)) = amongF zs k l
  | [], _ => rfl
  | x :: l, k => by
    unfold amongN amongF
    split
    · rw [List.map_cons, amongN_map zs l (k + 1)]
    · exact amongN_map zs l (k + 1)
theorem amongN_len (zs : List Int) : ∀ (l : List Bl) (k : Nat), (amongN zs k l).length ≤ l.length
  | [], _ => Nat.le_refl _
  | x :: l, k => by
    have := amongN_len zs l (k + 1)
    unfold amongN
    split <;> simp <;> omega
/-- What Format leaves. -/
def FmPost (base : Nat) (w : World) (c : CS) (e : Ending) (w' : World) : Prop := ∃ m : Mg, m.bl = scanV c.vw ∧ (m.seq : Int) = maxS (scanV c.vw) ∧ m.lost = false ∧ e = .returned (.tuple #[.pointer (some ⟨m.p, 0, none⟩), .int .i64 0]) ∧
  MLies base w' (clearM (amongN [3] 0 m.bl ++ amongN [2, 4] 0 m.bl) m c).2.1 (clearM (amongN [3] 0 m.bl ++ amongN [2, 4] 0 m.bl) m c).2.2 ∧ (clearM (amongN [3] 0 m.bl ++ amongN [2, 4] 0 m.bl) m c).2.1.p = m.p ∧ (clearM (amongN [3] 0 m.bl ++ amongN [2, 4] 0 m.bl) m c).2.2.foot = c.foot ∧ Kept (fun k => base ≤ k) w w'
theorem MLies.foot_ge {base : Nat} {w : World} {m : Mg} {c : CS} (h : MLies base w m c) : ∀ k, MFoot m c k → base ≤ k := by
  rintro k (rfl | rfl | hk)
  · exact h.low.1
  · exact h.low.2
  · exact h.chip.low k hk
theorem two_ints (X : World) : Row (X.alloc (.cells #[.int .i64 2, .int .i64 4] 3)) X.heap.size [.int .i64 2, .int .i64 4] 3 := Row.new X [_, _] _
theorem among3 {base : Nat} {X : World} {m : Mg} {c : CS} (h : MLies base X m c) : Calls Tryz.prog 49 #[.pointer (some ⟨m.p, 0, none⟩), .slice (some ⟨X.heap.size, 0, none⟩) 1 1] (X.alloc (.cells #[.int .i64 3] 3)) fun e w' => ∃ v, e = .returned v ∧ OwnI X.heap.size w' v (amongF [3] 0 m.bl) ∧ Below X.heap.size X w' := by
  have hb := below_new X (.cells #[.int .i64 3] 3)
  refine Calls.mono (mamong_any (h.later hb) [3] X.heap.size 1 (fun j hj => ?_) (by simp)) ?_
  · have : j = 0 := by simpa using hj
    subst this
    exact (Row.new X [.int .i64 3] 3).cell (i := 0) rfl
  · rintro e w' ⟨v, rfl, ho, hb2⟩
    exact ⟨v, rfl, ho.low (by simp), Below.after hb hb2⟩
theorem among24 {base : Nat} {X : World} {m : Mg} {c : CS} (h : MLies base X m c) : Calls Tryz.prog 49 #[.pointer (some ⟨m.p, 0, none⟩), .slice (some ⟨X.heap.size, 0, none⟩) 2 2] (X.alloc (.cells #[.int .i64 2, .int .i64 4] 3)) fun e w' => ∃ v, e = .returned v ∧ OwnI X.heap.size w' v (amongF [2, 4] 0 m.bl) ∧ Below X.heap.size X w' := by
  have hb := below_new X (.cells #[.int .i64 2, .int .i64 4] 3)
  refine Calls.mono (mamong_any (h.later hb) [2, 4] X.heap.size 2 (fun j hj => ?_) (by simp)) ?_
  · have : j = 0 ∨ j = 1 := by have : j < 2 := by simpa using hj
                               omega
    rcases this with rfl | rfl
    · exact (two_ints X).cell (i := 0) rfl
    · exact (two_ints X).cell (i := 1) rfl
  · rintro e w' ⟨v, rfl, ho, hb2⟩
    exact ⟨v, rfl, ho.low (by simp), Below.after hb hb2⟩
set_option maxHeartbeats 4000000 in
theorem format_any {base : Nat} {w : World} {c : CS} (h : Lies base w c) (hon : c.on = true) (hg : Hd.Glb w) (hgb : 0 < base) (hsp : spentB c = false)
    (hR : ∀ (i : Nat) o, (scanV c.vw)[i]? = some o → o.st = 3 → o.cnt = (((Hd.parseC (c.read i 0).1).getD 0 : Nat) : Int)) (hV : ∀ m : Mg, m.bl = scanV c.vw → ClearV (amongN [3] 0 m.bl ++ amongN [2, 4] 0 m.bl) m c) :
    Calls Tryz.prog 25 #[.pointer (some ⟨c.p, 0, none⟩)] w (FmPost base w c) := by
  have kO := over_on h hon hg
  have HG : Hid (∀ X, Below w.heap.size w X → Hd.Glb X) := fun X hb => hg.later hb
  have HR : Hid (0 < base ∧ ∀ (i : Nat) o, (scanV c.vw)[i]? = some o → o.st = 3 → o.cnt = (((Hd.parseC (c.read i 0).1).getD 0 : Nat) : Int)) := ⟨hgb, hR⟩
  have HV : Hid (∀ m : Mg, m.bl = scanV c.vw → ClearV (amongN [3] 0 m.bl ++ amongN [2, 4] 0 m.bl) m c) := hV
  have HBs : Hid (base ≤ w.heap.size) := (Nat.le_trans (h.low _ (.inl rfl)) (Nat.le_of_lt (h.foot_lt (.inl rfl))) : base ≤ w.heap.size)
  have HLen : Hid (∀ (m : Mg) {W : World}, MLies base W m c → (amongF [3] 0 m.bl).length + (amongF [2, 4] 0 m.bl).length ≤ 1000) := fun m W hW => by
    have h1 := amongN_len [3] m.bl 0
    have h2 := amongN_len [2, 4] m.bl 0
    have e1 := amongN_map [3] m.bl 0
    have e2 := amongN_map [2, 4] m.bl 0
    have := hW.chip.good.gs
    have := hW.len
    rw [← e1, ← e2, List.length_map, List.length_map]
    omega
  have HClr : Hid (∀ (m : Mg) (W3 W8 : World) (a8 : Option Addr) (c8 : Nat), m.bl.length = c.gb → m.bl = scanV c.vw → MLies base W3 m c → Below W3.heap.size W3 W8 → IRow W8 a8 (amongF [3] 0 m.bl ++ amongF [2, 4] 0 m.bl) → (∀ b o, a8 = some ⟨b, o, none⟩ → W3.heap.size ≤ b) → Calls Tryz.prog 48 #[.pointer (some ⟨m.p, 0, none⟩), .slice a8 (amongF [3] 0 m.bl ++ amongF [2, 4] 0 m.bl).length c8] W8 fun e w' => e = .returned (.tuple #[.pointer (some ⟨m.p, 0, none⟩), .int .i64 0]) ∧ Ex base W8 m c w' (clearM (amongN [3] 0 m.bl ++ amongN [2, 4] 0 m.bl) m c).2.1 (clearM (amongN [3] 0 m.bl ++ amongN [2, 4] 0 m.bl) m c).2.2) := fun m W3 W8 a8 c8 hml hbl hM3 hb hir hge => by
    have e : (amongN [3] 0 m.bl ++ amongN [2, 4] 0 m.bl).map (fun x : Nat => (x : Int)) = amongF [3] 0 m.bl ++ amongF [2, 4] 0 m.bl := by rw [List.map_append, amongN_map, amongN_map]
    have el : (amongF [3] 0 m.bl ++ amongF [2, 4] 0 m.bl).length = (amongN [3] 0 m.bl ++ amongN [2, 4] 0 m.bl).length := by rw [← e, List.length_map]
    have h1 := amongN_len [3] m.bl 0
    have h2 := amongN_len [2, 4] m.bl 0
    have hgs := hM3.chip.good.gs
    rw [el]
    refine mcleared_any (hM3.later hb) a8 c8 _ (by rw [e]; exact hir) (fun b o hbo _ => MFoot_new hM3 (hge b o hbo)) (hV m hbl) (by rw [List.length_append]; omega)
  clear h hon hg hgb hR hV
  have M1 : Hid True := trivial
  go_enter Tryz.func25, Tryz.ntmps25
  go_wp2_with (first
    | (go_at_call 45; refine kO.mono ?_; rintro e w1 ⟨m, rfl, hm, hbl, hsq, hlo, hb⟩; have HM : Hid (MLies base w1 m c ∧ m.bl = scanV c.vw ∧ (m.seq : Int) = maxS (scanV c.vw) ∧ m.lost = false ∧ Below w.heap.size w w1) := ⟨hm, hbl, hsq, hlo, hb⟩; have kS := mspent_any hm; rw [hsp] at kS; clear hm hbl hsq hlo hb)
    | (go_at_call 46; refine kS.mono ?_; rintro e w2 ⟨rfl, hb2⟩; have hm2 := HM.out.1.later hb2; have HM2 : Hid (MLies base w2 m c ∧ Below w.heap.size w w2) := ⟨hm2, Below.after HM.out.2.2.2.2 hb2⟩; have kR := mrecount_any hm2 (HG.out _ (Below.after HM.out.2.2.2.2 hb2)) HR.out.1 (by rw [HM.out.2.1]; exact HR.out.2); clear hb2 hm2 kS)
    | (go_at_call 47; refine kR.mono ?_; rintro e w3 ⟨rfl, hrc⟩; have HM3 : Hid (MLies base w3 m c ∧ Kept (MFoot m c) w2 w3) := ⟨hrc.ml, hrc.kp⟩; have kA := among3 hrc.ml; clear hrc kR)
    | (go_at_call 49; clear M1; refine kA.mono ?_; rintro e w5 ⟨v5, rfl, ho5, hb5⟩; obtain ⟨a5, c5, e5, _⟩ := ho5.form2; subst e5; have HO5 : Hid (OwnI w3.heap.size w5 (.slice a5 (amongF [3] 0 m.bl).length c5) (amongF [3] 0 m.bl) ∧ Below w3.heap.size w3 w5) := ⟨ho5, hb5⟩; have kB := among24 (HM3.out.1.later hb5); clear ho5 hb5 kA)
    | (go_at_call 49; refine kB.mono ?_; rintro e w7 ⟨v7, rfl, ho7, hb7⟩; obtain ⟨a7, c7, e7, q1, q2, q3, q4⟩ := ho7.form2; subst e7; have HO7 : Hid (OwnI w3.heap.size w7 (.slice a5 (amongF [3] 0 m.bl).length c5) (amongF [3] 0 m.bl) ∧ Below w3.heap.size w3 w7 ∧ IRow w7 a7 (amongF [2, 4] 0 m.bl) ∧ (a7 = none → (amongF [2, 4] 0 m.bl).length = 0 ∧ c7 = 0)) := ⟨HO5.out.1.later hb7, Below.after HO5.out.2 hb7, q1, q3⟩; clear ho7 hb7 kB q1 q2 q3 q4)
    | (at_builtin; refine wpList_append_ints rfl (.tmp 23) (.tmp 26) rfl w3.heap.size (.slice a5 (amongF [3] 0 m.bl).length c5) (amongF [3] 0 m.bl) rfl HO7.out.1 a7 c7 (amongF [2, 4] 0 m.bl) rfl HO7.out.2.2.1 HO7.out.2.2.2 (HLen.out m HM.out.1) HO7.out.2.1.size ?_; intro v8 w8 ho8 hg8; have hb8 : Below w3.heap.size w3 w8 := HO7.out.2.1.grown hg8 HO7.out.2.1.size (fun q hq => HO7.out.1.block q hq); obtain ⟨a8, c8, e8, q1, q2, q3, q4⟩ := ho8.form2; obtain ⟨n8, hn8⟩ : ∃ n8, n8 = (amongF [3] 0 m.bl ++ amongF [2, 4] 0 m.bl).length := ⟨_, rfl⟩; rw [← hn8] at e8; subst e8; have kC := HClr.out m w3 w8 a8 c8 HM.out.1.len HM.out.2.1 HM3.out.1 hb8 q1 q2; rw [← hn8] at kC; clear hn8; have HB8 : Hid (Below w3.heap.size w3 w8) := hb8; clear hb8 ho8 hg8 q1 q2 q3 q4)
    | (go_at_call 48; refine kC.mono ?_; rintro e w9 ⟨rfl, hx9⟩; have HX9 : Hid (Ex base w8 m c w9 (clearM (amongN [3] 0 m.bl ++ amongN [2, 4] 0 m.bl) m c).2.1 (clearM (amongN [3] 0 m.bl ++ amongN [2, 4] 0 m.bl) m c).2.2) := hx9; clear hx9 kC))
  refine bodyPost_ret (v := .tuple #[.pointer (some ⟨m.p, 0, none⟩), .int .i64 0]) ?_ rfl ⟨m, HM.out.2.1, HM.out.2.2.1, HM.out.2.2.2.1, rfl, HX9.out.ml, HX9.out.p, HX9.out.ft, ?_⟩
  · simp [results, Tryz.f25, go_sem]
  · have hge := HM.out.1.foot_ge
    exact (((Kept.of_below HM2.out.2).trans (HM3.out.2.mono hge)).trans (.of_below HB8.out)).trans (HX9.out.kp.mono hge)
end Go.Proofs.YtkfecngkdlajgaaGreatDoor
