/-
  The numbers of the blocks that are in some states.
  Blocks that are freed one behind the other.
-/
import Derived.Test.YtccfalafphjkpaaGreatDoorKN
import Derived.Test.YtccfalafphjkpaaGreatDoorCShelf
import Derived.Laws.AppendOwn
import Derived.Laws.AppendOwnNone
namespace Go.Proofs.YtccfalafphjkpaaGreatDoor
open Go.RowKit
set_option maxRecDepth 10000

/-- Numbers that lie in memory. -/
def IRow (w : World) (a : Option Addr) (l : List Int) : Prop := l = [] ∨ ∃ b off, a = some ⟨b, off, none⟩ ∧ ∀ (i : Nat) x, l[i]? = some x → w.cell? ⟨b, off + i, none⟩ = some (.int .i64 x)
def intV (x : Int) : Value := .int .i64 x
/-- The numbers of the blocks in some states. -/
def amongF (zs : List Int) : Nat → List Bl → List Int
  | _, [] => []
  | k, x :: l => if zs.contains x.st then (k : Int) :: amongF zs (k + 1) l else amongF zs (k + 1) l
theorem amongF_snoc (zs : List Int) : ∀ (l : List Bl) (k : Nat) (x : Bl), amongF zs k (l ++ [x]) = amongF zs k l ++ (if zs.contains x.st then [((k + l.length : Nat) : Int)] else [])
  | [], k, x => by simp [amongF]
  | y :: l, k, x => by
    rw [List.cons_append]
    unfold amongF
    rw [amongF_snoc zs l (k + 1) x, List.length_cons, show k + 1 + l.length = k + (l.length + 1) by omega]
    split <;> simp
theorem amongF_take (zs : List Int) {l : List Bl} {k : Nat} {x : Bl} (h : l[k]? = some x) : amongF zs 0 (l.take (k + 1)) = amongF zs 0 (l.take k) ++ (if zs.contains x.st then [(k : Int)] else []) := by
  obtain ⟨hk, e⟩ := List.getElem?_eq_some_iff.1 h
  rw [List.take_add_one, h]
  show amongF zs 0 (l.take k ++ [x]) = _
  rw [amongF_snoc, List.length_take, Nat.min_eq_left (Nat.le_of_lt hk), Nat.zero_add]
theorem infoInt : (Tryz.prog.info? 3).map (fun i => (i.zero, i.size, i.bytes)) = some (some (.int .i64 0), 1, 8) := by kernel_rfl
theorem wpList_append_int {w : World} {ops : Array Oper} {rest : List Oper} {o : Oper} {a : Act} {Q : Exit → Act → World → Prop} (hgd : o.guard = none) (s x : Operand)
    (ho : o.op = .call { callee := .builtin .append, args := #[s, x], argTypes := #[71, 71] })
    (base : Nat) (v : Value) (n : Nat) (xs : List Value) (hs : a.eval s = v) (hown : w.ownsRow base 3 1 v n xs)
    (ad : Addr) (c : Nat) (u : Int) (hx : a.eval x = .slice (some ad) 1 c) (hr : w.cell? (ad.add 0) = some (intV u))
    (h63 : n + 1 ≤ maxLen) (hbytes : (n + 1) * 8 ≤ 140737488355328) (hbase : base ≤ w.heap.size)
    (h : ∀ v' w', w'.ownsRow base 3 1 v' (n + 1) (xs ++ [intV u]) → w.grownBy w' v.ownBlock → wpList Tryz.prog ops Q rest (a.put o.dst v') w') : wpList Tryz.prog ops Q (o :: rest) a w := by
  obtain ⟨i0, hi, hz0, hz1, hz2⟩ := info_parts infoInt
  exact wpList_append_own w hgd s x 71 ho base 3 i0 (.int .i64 0) 1 8 Tryz.underlying71 hi hz0 hz1 hz2 rfl (by omega) v n xs hs hown ad 1 c [intV u] hx rfl
    (fun j z hj => by
      have hj0 : j = 0 := by have := (List.getElem?_eq_some_iff.1 hj).1; simp at this; omega
      subst hj0
      simp at hj; subst hj
      exact hr) (fun z hz => by simp at hz; subst hz; rfl) h63 hbytes hbase
    (fun v' w' h1 h2 _ => h v' w' h1 h2)
theorem new_int (w : World) (u : Int) (t : TypeId) : (w.alloc (.cells #[.int .i64 u] t)).cell? ((⟨w.heap.size, 0, none⟩ : Addr).add 0) = some (intV u) := ((Row.new w [.int .i64 u] t).cell (i := 0) rfl : _)
/-- Numbers that a call has made. -/
def OwnI (base : Nat) (w : World) (v : Value) (l : List Int) : Prop := w.ownsRow base 3 1 v l.length (l.map intV)
theorem OwnI.later {base : Nat} {w w' : World} {v : Value} {l : List Int} (h : OwnI base w v l) (hb : Below w.heap.size w w') : OwnI base w' v l := owns_later h hb
theorem OwnI.form {base : Nat} {w : World} {v : Value} {l : List Int} (h : OwnI base w v l) : ∃ a cap, v = .slice a l.length cap ∧ IRow w a l ∧ (∀ b o, a = some ⟨b, o, none⟩ → base ≤ b) ∧ (a = none → l = []) := by
  rcases h.2 with ⟨rfl, h0⟩ | ⟨q, cap, cur, rfl, hbg, hgg, hnc, hcm, hcs, htake⟩
  · exact ⟨none, 0, by rw [h0], .inl (List.eq_nil_of_length_eq_zero h0), fun b o e => (by cases e), fun _ => List.eq_nil_of_length_eq_zero h0⟩
  · refine ⟨_, cap, rfl, .inr ⟨q, 0, rfl, fun i x hx => ?_⟩, fun b o e => (by cases e; exact hbg), fun e => (by cases e)⟩
    have hi := (List.getElem?_eq_some_iff.1 hx).1
    have := h.cellAt i (by simpa using hi)
    rw [Nat.zero_add, this, List.getElem?_map, hx]
    rfl
theorem OwnI.block {base : Nat} {w : World} {v : Value} {l : List Int} (h : OwnI base w v l) : ∀ q, v.ownBlock = some q → base ≤ q := by
  intro q hq
  rcases h.2 with ⟨rfl, h0⟩ | ⟨g, cap, cur, rfl, hbg, _⟩
  · simp [Value.ownBlock] at hq
  · simp [Value.ownBlock] at hq
    omega
/-- While the blocks are gone through. -/
structure Am (base : Nat) (w : World) (m : Mg) (c : CS) (wr : World) (v : Value) (l : List Int) : Prop where
  bel : Below w.heap.size w wr
  own : OwnI w.heap.size wr v l
set_option maxHeartbeats 4000000 in
theorem mamong_any {base : Nat} {w : World} {m : Mg} {c : CS} (h : MLies base w m c) (zs : List Int) (b cap : Nat) (hz : ∀ j, j < zs.length → w.cell? ⟨b, 0 + j, none⟩ = some (.int .i64 (zs.getD j 0))) (hz1 : zs.length ≤ 4) :
    Calls Tryz.prog 29 #[.pointer (some ⟨m.p, 0, none⟩), .slice (some ⟨b, 0, none⟩) zs.length cap] w fun e w' => ∃ v, e = .returned v ∧ OwnI w.heap.size w' v (amongF zs 0 m.bl) ∧ Below w.heap.size w w' := by
  obtain ⟨_, c1, _, _⟩ := h.cells
  have hgs := h.chip.good.gs
  have hlen := h.len
  have HM : Hid (∀ X, Below w.heap.size w X → MLies base X m c) := fun X hb => h.later hb
  have HC : Hid (∀ X (x : Int), Below w.heap.size w X → Calls Tryz.prog 67 #[.slice (some ⟨b, 0, none⟩) zs.length cap, .int .i64 x] X fun e w' => e = .returned (.bool (zs.contains x)) ∧ X = w') := fun X x hb => by
    refine (Tryz.slices_Contains_int b 0 zs.length cap zs x X (Nat.le_refl _) (by omega) (fun j hj => ?_)).mono ?_
    · have := hz j hj
      rw [hb.cell (p := ⟨b, 0 + j, none⟩) (World.block_lt_of_cell? w _ this)]
      exact this
    · rintro e w' ⟨rfl, rfl⟩
      exact ⟨by rw [List.take_length], rfl⟩
  have hl256 : m.bl.length ≤ 256 := by omega
  clear h hz hgs hlen
  go_enter Tryz.func29, Tryz.ntmps29
  go_wp2
  go_loopg [5, 13] m.bl.length (fun kx s5 s13 wr => ∃ (k : Nat) (v : Value), k + kx = m.bl.length ∧ v = s5 ∧ s13 = .int .i64 (k : Nat) ∧ Hid (Am base w m c wr v (amongF zs 0 (m.bl.take k))))
  case atStart => exact ⟨0, _, by omega, rfl, rfl, ⟨Below.refl _ _, World.ownsRow_nil w _ _ _⟩⟩
  case round =>
    obtain ⟨k, v, hk, rfl, rfl, HA⟩ := hrel
    by_cases hlt : k < m.bl.length
    · obtain ⟨x, hx⟩ : ∃ x, m.bl[k]? = some x := ⟨_, List.getElem?_eq_getElem hlt⟩
      have HT : Hid (amongF zs 0 (m.bl.take (k + 1)) = amongF zs 0 (m.bl.take k) ++ (if zs.contains x.st then [(k : Int)] else [])) := amongF_take zs hx
      obtain ⟨g0, g1, g2, g3, g4, g5⟩ := (HM.out wr HA.out.bel).blAt hx
      have n0 : ¬ (k : Int) < 0 := by omega
      have n1 : (k : Int) < (m.bl.length : Int) := by omega
      have hll : (amongF zs 0 (m.bl.take k)).length ≤ 256 := by
        have : ∀ (l : List Bl) (q : Nat), (amongF zs q l).length ≤ l.length := by
          intro l
          induction l with
          | nil => intro q; exact Nat.le_refl _
          | cons y l ih =>
            intro q
            unfold amongF
            split
            · have := ih (q + 1); simp; omega
            · have := ih (q + 1); simp; omega
        have := this (m.bl.take k) 0
        rw [List.length_take] at this
        omega
      obtain ⟨A, hA⟩ : ∃ A, A = amongF zs 0 (m.bl.take k) := ⟨_, rfl⟩
      rw [← hA] at HA HT hll
      obtain ⟨W2, hW2⟩ : ∃ W2, W2 = wr.alloc (.cells #[.int .i64 x.st, .int .i64 x.cnt, .int .i64 x.leb, .int .i64 x.used, .int .u64 x.seq, .bool x.closed] 51) := ⟨_, rfl⟩
      have hb2 : Below wr.heap.size wr W2 := by rw [hW2]; exact below_new wr _
      have HA2 : Hid (Am base w m c W2 v A) := ⟨Below.after HA.out.bel hb2, HA.out.own.later hb2⟩
      have kC := HC.out W2 x.st HA2.out.bel
      obtain ⟨q, hq⟩ : ∃ q, q = zs.contains x.st := ⟨_, rfl⟩
      rw [← hq] at kC HT
      clear hx hA hq hb2
      cases q with
      | true =>
        have kC2 := kC
        rw [hW2] at kC2
        have hs2 : W2.heap.size = wr.heap.size + 1 := by rw [hW2]; simp
        have HNew : Hid (((wr.alloc (.cells #[.int .i64 x.st, .int .i64 x.cnt, .int .i64 x.leb, .int .i64 x.used, .int .u64 x.seq, .bool x.closed] 51)).alloc (.cells #[.int .i64 (k : Int)] 3)).cell? ((⟨wr.heap.size + 1, 0, none⟩ : Addr).add 0) = some (intV (k : Int)) ∧ OwnI w.heap.size ((wr.alloc (.cells #[.int .i64 x.st, .int .i64 x.cnt, .int .i64 x.leb, .int .i64 x.used, .int .u64 x.seq, .bool x.closed] 51)).alloc (.cells #[.int .i64 (k : Int)] 3)) v A ∧ Below w.heap.size w ((wr.alloc (.cells #[.int .i64 x.st, .int .i64 x.cnt, .int .i64 x.leb, .int .i64 x.used, .int .u64 x.seq, .bool x.closed] 51)).alloc (.cells #[.int .i64 (k : Int)] 3))) := by
          rw [← hW2, ← hs2]
          exact ⟨new_int W2 k _, HA2.out.own.later (below_new _ _), Below.after HA2.out.bel (below_new _ _)⟩
        have HLn : Hid (A.length ≤ 256) := hll
        clear hll hs2
        go_wp2_with (first
          | (go_at_call 67; refine kC2.mono ?_; rintro e w3 ⟨rfl, rfl⟩)
          | (at_builtin; refine wpList_append_int rfl (.tmp 22) (.tmp 24) rfl w.heap.size v A.length (A.map intV) rfl HNew.out.2.1 ⟨wr.heap.size + 1, 0, none⟩ 1 (k : Int) rfl HNew.out.1 (by have := HLn.out; unfold maxLen; omega) (by have := HLn.out; omega) HNew.out.2.2.size ?_; intro v5 w5 hown hgrow; have HO5 : Hid (OwnI w.heap.size w5 v5 (A ++ [(k : Int)]) ∧ Below w.heap.size w w5) := ⟨by have := hown; unfold OwnI; rw [List.map_append, List.length_append]; exact this, HNew.out.2.2.grown hgrow HNew.out.2.2.size (fun q hq => HNew.out.2.1.block q hq)⟩; clear hown hgrow))
        go_roundg (m.bl.length - (k + 1))
        case measure => omega
        case rel => exact ⟨k + 1, v5, by omega, rfl, by go_num, ⟨HO5.out.2, by rw [HT.out]; exact HO5.out.1⟩⟩
      | false =>
        have kC2 := kC
        rw [hW2] at kC2
        rw [hW2] at HA2
        have HT2 : Hid (amongF zs 0 (m.bl.take (k + 1)) = A) := (by have := HT.out; simpa using this : amongF zs 0 (m.bl.take (k + 1)) = A)
        clear HT
        go_wp2_with (go_at_call 67; refine kC2.mono ?_; rintro e w3 ⟨rfl, rfl⟩)
        go_roundg (m.bl.length - (k + 1))
        case measure => omega
        case rel => exact ⟨k + 1, v, by omega, rfl, by go_num, by rw [HT2.out]; exact HA2⟩
    · have hkk : k = m.bl.length := by omega
      rw [hkk, List.take_length] at HA
      have n1 : ¬ (k : Int) < (m.bl.length : Int) := by omega
      obtain ⟨a, cc, rfl, _⟩ := HA.out.own.form
      clear hkk hlt hk
      go_wp2
      go_ret
      exact ⟨_, rfl, HA.out.own, HA.out.bel⟩
end Go.Proofs.YtccfalafphjkpaaGreatDoor
namespace Go.Proofs.YtccfalafphjkpaaGreatDoor
open Go.RowKit
set_option maxRecDepth 10000

noncomputable def clearM : List Nat → Mg → CS → Int × Mg × CS
  | [], m, c => (0, m, c)
  | n :: l, m, c => if (freeM m c n ((m.bl[n]?).getD zeroB).cnt.toNat).1 = 0 then clearM l (freeM m c n ((m.bl[n]?).getD zeroB).cnt.toNat).2.1 (freeM m c n ((m.bl[n]?).getD zeroB).cnt.toNat).2.2 else freeM m c n ((m.bl[n]?).getD zeroB).cnt.toNat
/-- Each of them can be freed. -/
def ClearV : List Nat → Mg → CS → Prop
  | [], _, _ => True
  | n :: l, m, c => (∃ (q : Nat) (o : Bl), m.bl[n]? = some o ∧ o.cnt = q ∧ q ≤ 2147483647) ∧ 64 ≤ c.gz ∧ (freeM m c n ((m.bl[n]?).getD zeroB).cnt.toNat).1 = 0 ∧ ClearV l (freeM m c n ((m.bl[n]?).getD zeroB).cnt.toNat).2.1 (freeM m c n ((m.bl[n]?).getD zeroB).cnt.toNat).2.2
theorem clearV_zero : ∀ (l : List Nat) (m : Mg) (c : CS), ClearV l m c → (clearM l m c).1 = 0
  | [], _, _, _ => rfl
  | n :: l, m, c, h => by
    unfold clearM
    rw [if_pos h.2.2.1]
    exact clearV_zero l _ _ h.2.2.2
/-- The loop over the blocks. -/
def ClGo (base : Nat) (w : World) (m : Mg) (c : CS) (X : Int × Mg × CS) (wr : World) (l : List Nat) : Prop := ∃ m1 c1, Ex base w m c wr m1 c1 ∧ X = clearM l m1 c1 ∧ ClearV l m1 c1
set_option maxHeartbeats 2000000 in
theorem mcleared_any {base : Nat} {w : World} {m : Mg} {c : CS} (h : MLies base w m c) (a : Option Addr) (cap : Nat) (l : List Nat) (hr : IRow w a (l.map fun x : Nat => (x : Int))) (hn : ∀ b o, a = some ⟨b, o, none⟩ → l ≠ [] → ¬ MFoot m c b) (hV : ClearV l m c) (hll : l.length ≤ 1000) :
    Calls Tryz.prog 28 #[.pointer (some ⟨m.p, 0, none⟩), .slice a l.length cap] w fun e w' => e = .returned (.tuple #[.pointer (some ⟨m.p, 0, none⟩), .int .i64 0]) ∧ Ex base w m c w' (clearM l m c).2.1 (clearM l m c).2.2 := by
  have HR : Hid (∀ X, Kept (MFoot m c) w X → IRow X a (l.map fun x : Nat => (x : Int))) := fun X hk => by
    rcases hr with e | ⟨b, off, e, hc⟩
    · exact .inl e
    · by_cases hl : l = []
      · exact .inl (by rw [hl]; rfl)
      · exact .inr ⟨b, off, e, fun i x hx => cell_kept hk (hn b off e hl) (hc i x hx)⟩
  have HM : Hid (MLies base w m c) := h
  have HV : Hid (ClearV l m c) := hV
  have HZ : Hid ((clearM l m c).1 = 0) := clearV_zero l m c hV
  obtain ⟨X, hX⟩ : ∃ X, X = clearM l m c := ⟨_, rfl⟩
  have HX : Hid (X = clearM l m c) := hX
  rw [← hX]
  clear h hr hn hV hX
  go_enter Tryz.func28, Tryz.ntmps28
  go_wp2
  go_loopg [11] l.length (fun kx s11 wr => ∃ k : Nat, k + kx = l.length ∧ s11 = .int .i64 (k : Nat) ∧ Hid (ClGo base w m c X wr (l.drop k)))
  case atStart => exact ⟨0, by omega, rfl, ⟨m, c, Ex.refl HM.out, HX.out, HV.out⟩⟩
  case round =>
    obtain ⟨k, hk, rfl, HG⟩ := hrel
    obtain ⟨m1, c1, hex, hX, hV⟩ := HG.out
    clear HG HV HX
    by_cases hlt : k < l.length
    · rw [List.drop_eq_getElem_cons hlt] at hX hV
      obtain ⟨n, hn⟩ : ∃ n, n = l[k] := ⟨_, rfl⟩
      rw [← hn] at hX hV
      obtain ⟨⟨q, o, ho, hoq, hq⟩, hgz, hz, hV2⟩ := hV
      unfold clearM at hX
      rw [if_pos hz, ho] at hX
      rw [ho] at hz hV2
      simp only [Option.getD_some, hoq, Int.toNat_natCast] at hX hz hV2
      have kf := mfree_any hex.ml n q o ho hoq hq hgz
      rw [hex.p] at kf
      obtain ⟨r, hr⟩ : ∃ r, r = freeM m1 c1 n q := ⟨_, rfl⟩
      have hrp : r.2.1.p = m1.p ∧ r.2.1.bb = m1.bb := by
        rw [hr]
        unfold freeM endM
        repeat' split
        all_goals exact ⟨rfl, rfl⟩
      rw [← hr] at kf hX hz hV2
      have hcell : ∃ b off, a = some ⟨b, off, none⟩ ∧ wr.cell? ⟨b, off + k, none⟩ = some (.int .i64 (n : Int)) := by
        rcases HR.out wr hex.kp with e | ⟨b, off, e, hc⟩
        · have : l = [] := by simpa using e
          rw [this] at hlt; simp at hlt
        · exact ⟨b, off, e, hc k n (by rw [List.getElem?_map, List.getElem?_eq_getElem hlt, hn]; rfl)⟩
      obtain ⟨b, off, rfl, hcl⟩ := hcell
      have HEx : Hid (Ex base w m c wr m1 c1) := hex
      have HH : Hid (X = clearM (l.drop (k + 1)) r.2.1 r.2.2 ∧ r.1 = 0 ∧ ClearV (l.drop (k + 1)) r.2.1 r.2.2 ∧ r.2.1.p = m1.p ∧ r.2.1.bb = m1.bb) := ⟨hX, hz, hV2, hrp⟩
      have n0 : ¬ (k : Int) < 0 := by omega
      have n1 : (k : Int) < (l.length : Int) := by omega
      clear hX hz hV2 hr hrp hex ho hoq hq hgz hn
      go_wp2_with (go_at_call 65; refine kf.mono ?_; rintro e w2 ⟨v, rfl, he, hl, hk2, hf⟩; rw [HH.out.2.1] at he; obtain rfl := he.nil; have HL : Hid (MLies base w2 r.2.1 r.2.2 ∧ Kept (MFoot m1 c1) wr w2 ∧ r.2.2.foot = c1.foot) := ⟨hl, hk2, hf⟩; clear he hl hk2 hf)
      go_roundg (l.length - (k + 1))
      case measure => omega
      case rel =>
        have hmf := MFoot_eq HEx.out.p HEx.out.bb HEx.out.ft
        exact ⟨k + 1, by omega, by go_num, ⟨r.2.1, r.2.2, ⟨HL.out.1, HH.out.2.2.2.1.trans HEx.out.p, HH.out.2.2.2.2.trans HEx.out.bb, HEx.out.kp.trans (hmf ▸ HL.out.2.1), HL.out.2.2.trans HEx.out.ft⟩, HH.out.1, HH.out.2.2.1⟩⟩
    · have hkk : k = l.length := by omega
      rw [hkk, List.drop_length] at hX
      have HH : Hid (X = (0, m1, c1) ∧ Ex base w m c wr m1 c1) := ⟨hX, hex⟩
      have n1 : ¬ (k : Int) < (l.length : Int) := by omega
      clear hX hex hV hkk hlt hk
      go_wp2
      refine bodyPost_ret (v := .tuple #[.pointer (some ⟨m.p, 0, none⟩), .int .i64 0]) ?_ rfl ⟨rfl, by rw [HH.out.1]; exact HH.out.2⟩
      simp [results, Tryz.f28, go_sem]
end Go.Proofs.YtccfalafphjkpaaGreatDoor
