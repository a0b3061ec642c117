/-
  What bytes.Repeat answers at one byte.
  What is read of a page.
  The chip lies in memory: what is known of it, and what stays.
  What the chip's methods answer, and what they leave.
-/
import Derived.Test.YtkfecngkdlajgaaGreatDoorGI
import Derived.Test.YtkfecngkdlajgaaGreatDoorCShelf
import Derived.BigQuiet
import Derived.Laws.CopyOwn
import Derived.Deep.RegionLaw
import Derived.Deep.LoopGhost
import Derived.Lib.MakeNoZero
import Derived.Lib.LazyBuf
import Derived.Deep.RegionHeld3
namespace Go.Proofs.YtkfecngkdlajgaaGreatDoor
open Go.RowKit
set_option maxRecDepth 10000

theorem size8 : (Tryz.prog.info? 5).map (·.size) = some 1 := by kernel_rfl
/-- k bytes of 255 ahead of what there was. -/
def ffs (cur : List Value) (k : Nat) : List Value := List.replicate k (Value.int .u8 255) ++ cur.drop k
theorem ffs_splice (cur : List Value) (k m : Nat) : splice (ffs cur k) k (List.replicate m (Value.int .u8 255)) = ffs cur (k + m) := by
  unfold splice ffs
  rw [List.take_append_of_le_length (by simp), List.take_of_length_le (by simp), List.drop_append]
  simp [List.replicate_append_replicate, ← List.append_assoc]
theorem ffs_len (cur : List Value) (k : Nat) (h : k ≤ cur.length) : (ffs cur k).length = cur.length := by simp [ffs]; omega
theorem ffs_get (cur : List Value) (k j : Nat) (h : j < k) : (ffs cur k)[j]? = some (.int .u8 255) := by
  unfold ffs; rw [List.getElem?_append_left (by simpa using h)]; simp [h]
theorem one_ff (m : Nat) : ∀ v ∈ List.replicate m (Value.int .u8 255), v.oneCell' = true := by
  intro v hv; rw [List.eq_of_mem_replicate hv]; rfl
theorem rep_get {m j : Nat} {v x : Value} (h : (List.replicate m x)[j]? = some v) : j < m ∧ v = x := by
  obtain ⟨hlt, e⟩ := List.getElem?_eq_some_iff.1 h
  simp at hlt e
  exact ⟨hlt, e.symm⟩

theorem rep_pos {W : World} {g b off : Nat} (hcb : W.cell? ⟨b, off, none⟩ = some (.int .u8 255)) : 0 < ([.int .u8 255] : List Value).length → some (⟨g, 0, none⟩ : Addr) = some ⟨g, 0, none⟩ ∧ ∃ ad, some (⟨b, off, none⟩ : Addr) = some ad ∧ ∀ j v, ([.int .u8 255] : List Value)[j]? = some v → W.cell? (ad.add j) = some v := by
  intro _
  refine ⟨rfl, _, rfl, fun j v hj => ?_⟩
  rcases j with _ | j
  · simp at hj; subst hj; simpa [Addr.add] using hcb
  · simp at hj
theorem rep_pos2 {W : World} {g k m : Nat} {cur : List Value} (hg : W.heap[g]? = some (.cells (ffs cur k).toArray 5 (0, 0))) (hm : m ≤ k) : 0 < (List.replicate m (Value.int .u8 255)).length → some (⟨g, k, none⟩ : Addr) = some ⟨g, k, none⟩ ∧ ∃ ad, some (⟨g, 0, none⟩ : Addr) = some ad ∧ ∀ j v, (List.replicate m (Value.int .u8 255))[j]? = some v → W.cell? (ad.add j) = some v := by
  intro _
  refine ⟨rfl, _, rfl, fun j v hj => ?_⟩
  obtain ⟨h1, rfl⟩ := rep_get hj
  have e : (⟨g, 0, none⟩ : Addr).add j = ⟨g, j, none⟩ := by unfold Addr.add; split <;> simp_all
  rw [e]
  simp only [World.cell?, hg]
  have := ffs_get cur k j (by omega)
  simpa using this

set_option maxRecDepth 100000 in
set_option maxHeartbeats 2000000 in
theorem repeat_any (b off c n : Nat) (w : World) (h1 : 1 ≤ n) (h2 : n ≤ 512) (hc : w.cell? ⟨b, off, none⟩ = some (.int .u8 255)) :
    Calls Tryz.prog 186 #[.slice (some ⟨b, off, none⟩) 1 c, .int .i64 n] w fun e w' => e = .returned (.slice (some ⟨w.heap.size, 0, none⟩) n n) ∧ Row w' w.heap.size (List.replicate n (Value.int .u8 255)) 5 ∧ Below w.heap.size w w' := by
  have hmul := fun W => Tryz.bits_Mul 1 n (by decide) (by omega) W
  have e1 : 1 * n / 18446744073709551616 = 0 := by omega
  have e2 : 1 * n % 18446744073709551616 = n := by omega
  simp only [e1, e2] at hmul
  change ∀ W, Calls Tryz.prog 209 #[.int .u64 1, .int .u64 (n : Int)] W _ at hmul
  clear e1 e2
  have hmul2 : ∀ W, Calls Tryz.prog 209 #[.int .u64 1, .int .u64 (n : Int)] W fun e w' => e = .returned (.tuple #[.int .u64 0, .int .u64 (n : Int)]) ∧ W = w' := fun W => (hmul W).mono fun e w' ⟨a, b⟩ => ⟨a, b.symm⟩
  clear hmul
  obtain ⟨cs, hrunM, hle, _⟩ := Lib.run_makeNoZero (P := Tryz.prog) w #[3] 56 5 Tryz.underlying56 n (by omega)
  have hcall : (callFunc 210 #[.int .i64 (n : Int)]).run Tryz.prog w = .ok (.value (.slice (some ⟨w.heap.size, 0, none⟩) n cs.size)) ((w.alloc (.cells cs 5)).drewN 2) := by
    rw [run_callFunc_extern Tryz.func210 (by kernel_rfl) (by kernel_rfl) (by kernel_rfl) (e := Extern.BytealgMakeNoZero.makeNoZero #[3] #[56]) (by kernel_rfl), hrunM]
    rfl
  clear hrunM
  obtain ⟨m, hm⟩ : ∃ m, m = cs.size := ⟨_, rfl⟩
  rw [← hm] at hcall hle
  have k0 : ((n : Int) == 0) = false := by simp; omega
  have k1 : ¬ (n : Int) < 0 := by omega
  have k2 : ¬ (8192 : Int) < (n : Int) := by omega
  have k3 : ¬ (9223372036854775807 : Int) < (n : Int) := by omega
  have k4 : IntKind.u64.wrap (n : Int) = n := by rw [IntKind.wrap_u64]; omega
  have k5 : IntKind.i64.wrap (n : Int) = n := by rw [IntKind.wrap_i64]; omega
  have hbel : Below w.heap.size w ((w.alloc (.cells cs 5)).drewN 2) := Below.after (below_new w _) (below_drawn _ 2)
  have hg0 : ((w.alloc (.cells cs 5)).drewN 2).heap[w.heap.size]? = some (.cells (ffs cs.toList 0).toArray 5 (0, 0)) := by
    show (w.heap.push _)[w.heap.size]? = _
    simp [ffs]
  have HG : Hid (((w.alloc (.cells cs 5)).drewN 2).heap[w.heap.size]? = some (.cells (ffs cs.toList 0).toArray 5 (0, 0))) := hg0
  clear hg0
  have hlen : cs.toList.length = m := by simp [hm]
  have hcb : ((w.alloc (.cells cs 5)).drewN 2).cell? ⟨b, off, none⟩ = some (.int .u8 255) := by
    rw [hbel.cell (p := ⟨b, off, none⟩) (World.block_lt_of_cell? w _ hc)]; exact hc
  have HN1 : Hid (([.int .u8 255] : List Value).length = Nat.min 1 n) := by show 1 = Nat.min 1 n; rw [show Nat.min 1 n = min 1 n from rfl]; omega
  have HF : Hid (0 + ([.int .u8 255] : List Value).length ≤ (ffs cs.toList 0).length) := by show 0 + 1 ≤ _; rw [ffs_len _ _ (by omega)]; omega
  go_enter Tryz.func186, Tryz.ntmps186
  go_wp2_with (first
    | (go_at_call 209; refine (hmul2 _).mono ?_; rintro e w' ⟨rfl, rfl⟩)
    | (refine wpList_copy_splice rfl (.tmp 58) (.tmp 59) 56 56 rfl 5 Tryz.underlying56 size8 _ _ _ _ _ _ rfl rfl w.heap.size 0 _ 5 HG.out [.int .u8 255] HN1.out (rep_pos hcb) HF.out (one_ff 1) w.heap.size w hbel (Nat.le_refl _) ?_; intro w2 hg2 hb2))
  have HG1 : Hid (w2.heap[w.heap.size]? = some (.cells (ffs cs.toList 1).toArray 5 (0, 0))) := by
    have := hg2.out
    rw [show ([.int .u8 255] : List Value) = List.replicate 1 (Value.int .u8 255) from rfl, ffs_splice] at this
    exact this
  clear hg2 HF HN1 HG hcb hbel hcall hmul2
  go_loopg [10, 11] (n - 1) (fun gm i _ wr => ∃ k : Nat, 1 ≤ k ∧ k ≤ n ∧ gm = n - k ∧ i = .int .i64 k ∧ Hid (wr.heap[w.heap.size]? = some (.cells (ffs cs.toList k).toArray 5 (0, 0))) ∧ Below w.heap.size w wr)
  case atStart => exact ⟨1, by omega, by omega, rfl, rfl, HG1, hb2⟩
  case round =>
    obtain ⟨k, hk1, hk, rfl, rfl, hg, hb⟩ := hrel
    by_cases hlt : k < n
    · obtain ⟨q, hq⟩ : ∃ q, q = min k (n - k) := ⟨_, rfl⟩
      have HL : Hid ((List.replicate q (Value.int .u8 255)).length = Nat.min k (n - k)) := by show _ = min k (n - k); rw [List.length_replicate]; exact hq
      have HF : Hid (k + (List.replicate q (Value.int .u8 255)).length ≤ (ffs cs.toList k).length) := by show _ ≤ _; rw [ffs_len _ _ (by omega), List.length_replicate]; omega
      have hne : ¬ n = k := by omega
      have hmin : min (k : Int) (n : Int) = k := by omega
      have hqk : q ≤ k := by omega
      have hqn : k + q ≤ n := by omega
      have hq1 : 1 ≤ q := by omega
      have hw : IntKind.i64.wrap ((k : Int) + (q : Int)) = ((k + q : Nat) : Int) := by rw [IntKind.wrap_i64]; omega
      clear hq
      go_wp2
      go_region_law (refine step_copy_splice rfl (.tmp 70) (.tmp 73) 56 56 rfl 5 Tryz.underlying56 size8 (some ⟨w.heap.size, k, none⟩) (some ⟨w.heap.size, 0, none⟩) (n - k) (n - k) k n (by simp [Act.eval, Act.put]) (by simp [Act.eval, Act.put]) w.heap.size k _ 5 hg.out (List.replicate q (Value.int .u8 255)) HL.out (rep_pos2 hg.out hqk) HF.out (one_ff q) w.heap.size w hb.drew (Nat.le_refl _) ?_; intro w4 hg4 hb4)
      all_goals go_wp2
      go_roundg (n - (k + q))
      case measure => omega
      case rel =>
        exact ⟨k + q, by omega, by omega, rfl, by simp, by have := hg4.out; rw [ffs_splice] at this; exact this, hb4⟩
    · go_wp2
      go_ret
      have e : k = n := by omega
      subst e
      exact ⟨rfl, ⟨cs.toList.drop k, hg.out⟩, hb⟩

/-- What is read of a page: its bytes; nothing, if it is unreadable. -/
def Pg.bytes (p : Pg) (n : Nat) : List Nat := if p.st = 0 then List.replicate n 255 else if p.st = 1 then p.data ++ List.replicate (n - p.data.length) 255 else []
def Pg.err (p : Pg) : Int := if p.st = 0 then 0 else if p.st = 1 then 0 else 5
/-- A row of bytes that one copied over its beginning. -/
theorem Row.setCells {g : Nat} {t : TypeId} : ∀ (vs : List Value) (o : Nat) (W : World) (cs : List Value), Row W g cs t → o + vs.length ≤ cs.length → Row (W.setCells g o vs) g (splice cs o vs) t
  | [], o, W, cs, h, hl => by simpa [splice, World.setCells] using h
  | v :: vs, o, W, cs, h, hl => by
    simp only [List.length_cons] at hl
    have h1 := h.set (i := o) v (by omega)
    have h2 := Row.setCells vs (o + 1) _ _ h1 (by rw [List.length_set]; omega)
    have e : splice (cs.set o v) (o + 1) vs = splice cs o (v :: vs) := by
      unfold splice
      rw [List.take_succ_eq_append_getElem (by rw [List.length_set]; omega), List.take_set_of_le (Nat.le_refl _), List.drop_set_of_lt (by omega)]
      simp [List.getElem_set_self]
      congr 1
      omega
    rw [e] at h2
    exact h2
end Go.Proofs.YtkfecngkdlajgaaGreatDoor
namespace Go.Proofs.YtkfecngkdlajgaaGreatDoor
open Go.RowKit
set_option maxRecDepth 10000

theorem wpList_copy_str {w : World} {ops : Array Oper} {rest : List Oper} {o : Oper} {a : Act} {Q : Exit → Act → World → Prop} (hgd : o.guard = none) (d s : Operand)
    (ho : o.op = .call { callee := .builtin .copy, args := #[d, s], argTypes := #[56, 9] })
    (g n c : Nat) (t : ByteArray) (hd : a.eval d = .slice (some ⟨g, 0, none⟩) n c) (hs : a.eval s = .string t) (hle : t.size ≤ n) (cs : List Value) (hcs : cs.length = n) (hr : Row w g cs 5) (B : Nat) (w0 : World) (hb : Below B w0 w) (hBg : B ≤ g)
    (h : ∀ w', Hid (Row w' g (splice cs 0 (t.data.toList.map fun x => Value.int .u8 (x.toNat : Int))) 5) → Below B w0 w' → wpList Tryz.prog ops Q rest (a.put o.dst (goInt t.size)) w') : wpList Tryz.prog ops Q (o :: rest) a w := by
  refine wpList_plain hgd fun K hK => ?_
  have hl : t.data.toList.length = t.size := Array.length_toList
  have hrun := run_copy_string (P := Tryz.prog) w 56 9 o.type 5 g 0 n c t Tryz.underlying56 Tryz.sizeOf5 hle
    (fun j hj => by rw [Nat.zero_add, hr.cell (List.getElem?_eq_getElem (show j < cs.length by omega))]; rfl) (fun j _ => hr.frozen _)
  unfold Oper.wp
  simp [execOp, ho, resolve, invoke, builtin, hd, hs, hrun, Result.andThen]
  refine hK _ _ (h _ (Row.setCells _ 0 w cs hr (by simp only [List.length_map, hl]; omega)) (below_setCells hBg _ _ _ hb))

theorem bstr_cells (l : List Nat) (h : ∀ x ∈ l, x < 256) : (bstr l).data.toList.map (fun x => Value.int .u8 (x.toNat : Int)) = l.map u8v := by
  unfold bstr
  rw [strOfNums_data, List.map_map, List.map_map]
  refine List.map_congr_left fun x hx => ?_
  have := h x hx
  simp [u8v]
  omega
theorem ff_map (n : Nat) : List.replicate n (Value.int .u8 255) = (List.replicate n 255).map u8v := by simp [u8v]
theorem brow_of {W : World} {g : Nat} {l : List Nat} (h : Row W g (l.map u8v) 5) : BRow W (some ⟨g, 0, none⟩) l := by
  refine .inr ⟨g, 0, rfl, fun i hi => ?_⟩
  rw [Nat.zero_add]
  exact h.cell (by simp [List.getD, hi, u8v])

set_option maxRecDepth 100000 in
set_option maxHeartbeats 2000000 in
theorem page_read (p : Pg) (n : Nat) (w : World) (h1 : 1 ≤ n) (h2 : n ≤ 512) (hd : p.data.length ≤ n) (hb : ∀ x ∈ p.data, x < 256) :
    Calls Tryz.prog 163 #[.agg #[.int .i64 p.st, .string (bstr p.data)], .int .i64 n] w fun e w' => ∃ a m cap, e = .returned (.tuple #[.slice a m cap, .int .i64 p.err]) ∧ m = (p.bytes n).length ∧ m ≤ cap ∧ cap ≤ 512 ∧ BRow w' a (p.bytes n) ∧ Below w.heap.size w w' ∧ (p.bytes n = [] ∨ ∀ b o, a = some ⟨b, o, none⟩ → w.heap.size ≤ b) := by
  have hrep0 : ∀ st S, Calls Tryz.prog 186 #[.slice (some ⟨w.heap.size + 1, 0, none⟩) 1 1, .int .i64 n] ((w.alloc (.cells #[.int .i64 st, .string S] 251)).alloc (.cells #[.int .u8 255] 5)) fun e w' => ∃ g, e = .returned (.slice (some ⟨g, 0, none⟩) n n) ∧ w.heap.size ≤ g ∧ Row w' g (List.replicate n (Value.int .u8 255)) 5 ∧ Below w.heap.size w w' ∧ w'.cell? ⟨w.heap.size, 0, none⟩ = some (.int .i64 st) ∧ w'.cell? ⟨w.heap.size, 1, none⟩ = some (.string S) := by
    intro st S
    have h := Row.new (w.alloc (.cells #[.int .i64 st, .string S] 251)) [.int .u8 255] 5
    rw [World.size_alloc] at h
    have := repeat_any (w.heap.size + 1) 0 1 n _ h1 h2 (h.cell (i := 0) rfl)
    refine this.mono ?_
    rintro e w' ⟨rfl, q1, q2⟩
    have q4 := ((Row.new w [Value.int IntKind.i64 st, Value.string S] 251).alloc (.cells #[.int .u8 255] 5)).later q2
    exact ⟨_, rfl, by simp; omega, q1, Below.after (below_new w _) (Below.after (below_new _ _) q2), q4.cell (i := 0) rfl, q4.cell (i := 1) rfl⟩
  obtain ⟨st, hst⟩ : ∃ st, st = p.st := ⟨_, rfl⟩
  obtain ⟨S, hS⟩ : ∃ S, S = bstr p.data := ⟨_, rfl⟩
  rw [← hst, ← hS]
  have hrep := hrep0 st S
  clear hrep0
  by_cases h0 : st = 0
  · have e1 : p.bytes n = List.replicate n 255 := by unfold Pg.bytes; rw [← hst, if_pos h0]
    have e2 : p.err = 0 := by unfold Pg.err; rw [← hst, if_pos h0]
    rw [e1, e2]
    have k0 : (st == 0) = true := by simpa using h0
    clear h0 hst hS e1 e2 hd hb
    go_enter Tryz.func163, Tryz.ntmps163
    go_wp2_with (go_at_call 186; refine hrep.mono ?_; rintro e w1 ⟨g, rfl, hg, q1, q3, q5, q6⟩)
    go_ret2
    rw [ff_map] at q1
    exact ⟨_, n, n, rfl, by simp, Nat.le_refl _, h2, brow_of q1, q3, .inr fun b o e => by cases e; exact hg⟩
  · have k0 : (st == 0) = false := by simpa using h0
    by_cases h3 : st = 1
    · have e1 : p.bytes n = p.data ++ List.replicate (n - p.data.length) 255 := by unfold Pg.bytes; rw [← hst, if_neg h0, if_pos h3]
      have e2 : p.err = 0 := by unfold Pg.err; rw [← hst, if_neg h0, if_pos h3]
      rw [e1, e2]
      have k1 : (st == 1) = true := by simpa using h3
      have hsz : S.size = p.data.length := by rw [hS]; unfold bstr; rw [strOfNums_size]; simp
      have hle : S.size ≤ n := by omega
      have HC : Hid (splice (List.replicate n (Value.int .u8 255)) 0 (S.data.toList.map fun x => Value.int .u8 (x.toNat : Int)) = (p.data ++ List.replicate (n - p.data.length) 255).map u8v) := by
        show _ = _
        rw [hS, bstr_cells _ hb]
        unfold splice
        simp [u8v]
      have HL : Hid (n = (p.data ++ List.replicate (n - p.data.length) 255).length) := by show _ = _; simp; omega
      generalize p.data ++ List.replicate (n - p.data.length) 255 = L at *
      clear h0 h3 hst hS e1 e2 hd hb hsz
      have hrl : (List.replicate n (Value.int .u8 255)).length = n := by simp
      go_enter Tryz.func163, Tryz.ntmps163
      go_wp2_with (first
        | (go_at_call 186; refine hrep.mono ?_; rintro e w1 ⟨g, rfl, hg, q1, q3, q5, q6⟩)
        | (refine wpList_copy_str rfl (.tmp 17) (.tmp 19) rfl _ _ _ _ rfl rfl hle (List.replicate n (Value.int .u8 255)) hrl q1 w.heap.size w q3 hg ?_; intro w2 hg2 hb2))
      go_ret2
      have q9 := hg2.out
      rw [HC.out] at q9
      exact ⟨_, n, n, rfl, HL.out, Nat.le_refl _, h2, brow_of q9, hb2, .inr fun b o e => by cases e; exact hg⟩
    · have k1 : (st == 1) = false := by simpa using h3
      have e1 : p.bytes n = [] := by unfold Pg.bytes; rw [← hst, if_neg h0, if_neg h3]
      have e2 : p.err = 5 := by unfold Pg.err; rw [← hst, if_neg h0, if_neg h3]
      rw [e1, e2]
      clear h0 h3 hst hS e1 e2 hd hb
      go_enter Tryz.func163, Tryz.ntmps163
      go_wp2_with (go_at_call 186; refine hrep.mono ?_; rintro e w1 ⟨g, rfl, hg, q1, q3, q5, q6⟩)
      go_ret2
      exact ⟨_, 0, 0, rfl, rfl, Nat.le_refl _, by omega, .inl rfl, q3, by simp⟩
end Go.Proofs.YtkfecngkdlajgaaGreatDoor
namespace Go.Proofs.YtkfecngkdlajgaaGreatDoor
open Go.RowKit
set_option maxRecDepth 10000

/-- A fault that a plan may have. -/
def Flt.ok (f : Flt) : Prop := 1 ≤ f.num ∧ (f.kind = 1 ∧ (f.torn = 0 ∨ f.torn = 1 ∨ f.torn = 2) ∨ f.kind = 2 ∧ f.torn = 0)
/-- What holds of a chip, wherever it lies. -/
structure Good (c : CS) : Prop where
  len : c.bks.length = c.gb
  plen : ∀ b ∈ c.bks, b.pgs.length = c.gp ∧ c.gp ≤ b.cap ∧ b.cap ≤ maxLen ∧ 0 ≤ b.next ∧ b.next ≤ c.gp
  qc : c.gb ≤ c.qcap ∧ c.qcap ≤ maxLen
  gs : 1 ≤ c.gb ∧ c.gb ≤ 256 ∧ 1 ≤ c.gp ∧ c.gp ≤ 64 ∧ 1 ≤ c.gz ∧ c.gz ≤ 512
  dat : ∀ b ∈ c.bks, ∀ p ∈ b.pgs, p.data.length ≤ c.gz ∧ ∀ x ∈ p.data, x < 256
  fok : ∀ f ∈ c.fs, f.ok
/-- The chip lies in memory, all of it from base on. -/
structure Lies (base : Nat) (w : World) (c : CS) : Prop where
  chip : ∃ fa fc, Row w c.p (csCells c fa fc) 77 ∧ Flts w fa fc c.fs
  bks : Row w c.q (c.bks.flatMap bkCells) 108
  pgs : ∀ b ∈ c.bks, Row w b.r (b.pgs.flatMap pgCells) 251
  nd : (c.bks.map Bk.r).Nodup
  low : ∀ k, c.foot k → base ≤ k
  good : Good c

theorem Lies.kept {S : Nat → Prop} {base : Nat} {w w' : World} {c : CS} (h : Lies base w c) (hk : Kept S w w') (hs : ∀ k, c.foot k → ¬ S k) (hf : ∀ b cs, Row w b cs 66 → ¬ S b) : Lies base w' c := by
  obtain ⟨fa, fc, h1, h2⟩ := h.chip
  exact ⟨⟨fa, fc, h1.kept hk (hs _ (.inl rfl)), h2.kept hk hf⟩, h.bks.kept hk (hs _ (.inr (.inl rfl))), fun b hb => (h.pgs b hb).kept hk (hs _ (.inr (.inr (List.mem_map.2 ⟨b, hb, rfl⟩)))), h.nd, h.low, h.good⟩
theorem Lies.later {base : Nat} {w w' : World} {c : CS} (h : Lies base w c) (hb : Below w.heap.size w w') : Lies base w' c :=
  h.kept (S := fun _ => False) (.of_below hb) (fun _ _ x => x) (fun _ _ _ x => x)
theorem Lies.drewN {base : Nat} {w : World} {c : CS} (h : Lies base w c) (n : Nat) : Lies base (w.drewN n) c := h.later (below_drawn w n)
theorem Lies.foot_lt {base : Nat} {w : World} {c : CS} (h : Lies base w c) {k : Nat} (hk : c.foot k) : k < w.heap.size := by
  rcases hk with rfl | rfl | hk
  · obtain ⟨fa, fc, h1, _⟩ := h.chip; exact h1.lt
  · exact h.bks.lt
  · obtain ⟨b, hb, rfl⟩ := List.mem_map.1 hk; exact (h.pgs b hb).lt
theorem foot_set {c c' : CS} {i : Nat} {b b' : Bk} (hp : c'.p = c.p) (hq : c'.q = c.q) (hi : c.bks[i]? = some b) (hb : c'.bks = c.bks.set i b') (hr : b'.r = b.r) : c'.bks.map Bk.r = c.bks.map Bk.r ∧ c'.foot = c.foot := by
  have e : c'.bks.map Bk.r = c.bks.map Bk.r := by
    rw [hb, List.map_set, hr]
    exact set_self (by simp [hi])
  refine ⟨e, ?_⟩
  funext k
  unfold CS.foot
  rw [hp, hq, e]
theorem Lies.step {base : Nat} {w w' : World} {c c' : CS} {i : Nat} {b b' : Bk} (h : Lies base w c) (hp : c'.p = c.p) (hq : c'.q = c.q) (hi : c.bks[i]? = some b) (hb : c'.bks = c.bks.set i b') (hr : b'.r = b.r) (good : Good c')
    (hk : Kept (fun k => k = c.p ∨ k = c.q ∨ k = b.r) w w') (h1 : ∃ fa fc, Row w' c.p (csCells c' fa fc) 77 ∧ Flts w' fa fc c'.fs)
    (h2 : Row w' c.q (c'.bks.flatMap bkCells) 108) (h3 : Row w' b.r (b'.pgs.flatMap pgCells) 251) : Lies base w' c' ∧ Kept c.foot w w' ∧ c'.foot = c.foot := by
  obtain ⟨e1, e2⟩ := foot_set hp hq hi hb hr
  have hbm : b ∈ c.bks := List.mem_of_getElem? hi
  refine ⟨⟨by rw [hp]; exact h1, by rw [hq]; exact h2, ?_, by rw [e1]; exact h.nd, by rw [e2]; exact h.low, good⟩, hk.mono ?_, e2⟩
  · intro x hx
    rw [hb] at hx
    obtain ⟨j, hj, rfl⟩ := List.getElem_of_mem hx
    rw [List.getElem_set] at *
    split
    · rw [hr]; exact h3
    · rename_i hne
      have hj2 : j < c.bks.length := by simpa using hj
      have hm : c.bks[j] ∈ c.bks := List.getElem_mem hj2
      refine (h.pgs _ hm).kept hk ?_
      rintro (e | e | e)
      · obtain ⟨fa, fc, g1, _⟩ := h.chip; exact (h.pgs _ hm).ne g1 (by decide) e
      · exact (h.pgs _ hm).ne h.bks (by decide) e
      · obtain ⟨hi1, hi2⟩ := List.getElem?_eq_some_iff.1 hi
        have hnd := List.pairwise_iff_getElem.1 h.nd
        rcases Nat.lt_or_gt_of_ne hne with hlt | hlt
        · exact hnd i j (by simpa using hi1) (by simpa using hj2) hlt (by simp [e, hi2])
        · exact hnd j i (by simpa using hj2) (by simpa using hi1) hlt (by simp [e, hi2])
  · rintro k (rfl | rfl | rfl)
    · exact .inl rfl
    · exact .inr (.inl rfl)
    · exact .inr (.inr (List.mem_map.2 ⟨b, hbm, rfl⟩))
/-- The same, where no block changes. -/
theorem Lies.step0 {base : Nat} {w w' : World} {c c' : CS} (h : Lies base w c) (hp : c'.p = c.p) (hq : c'.q = c.q) (hb : c'.bks = c.bks) (good : Good c')
    (hk : Kept (fun k => k = c.p) w w') (h1 : ∃ fa fc, Row w' c.p (csCells c' fa fc) 77 ∧ Flts w' fa fc c'.fs) : Lies base w' c' ∧ Kept c.foot w w' ∧ c'.foot = c.foot := by
  obtain ⟨fa, fc, g1, _⟩ := h.chip
  have e2 : c'.foot = c.foot := by funext k; unfold CS.foot; rw [hp, hq, hb]
  refine ⟨⟨by rw [hp]; exact h1, ?_, ?_, by rw [hb]; exact h.nd, by rw [e2]; exact h.low, good⟩, hk.mono (fun k e => .inl e), e2⟩
  · rw [hq, hb]; exact h.bks.kept hk (fun e => h.bks.ne g1 (by decide) e)
  · rw [hb]; intro x hx; exact (h.pgs x hx).kept hk (fun e => (h.pgs x hx).ne g1 (by decide) e)
theorem Good.set {c : CS} {i : Nat} {b' : Bk} (h : Good c) (h1 : b'.pgs.length = c.gp ∧ c.gp ≤ b'.cap ∧ b'.cap ≤ maxLen ∧ 0 ≤ b'.next ∧ b'.next ≤ c.gp) (h2 : ∀ p ∈ b'.pgs, p.data.length ≤ c.gz ∧ ∀ x ∈ p.data, x < 256) : Good { c with bks := c.bks.set i b' } := by
  refine ⟨by simpa using h.len, ?_, h.qc, h.gs, ?_, h.fok⟩
  · intro x hx
    rcases List.mem_or_eq_of_mem_set hx with hx | rfl
    · exact h.plen x hx
    · exact h1
  · intro x hx
    rcases List.mem_or_eq_of_mem_set hx with hx | rfl
    · exact h.dat x hx
    · exact h2
theorem stepF_cons (s : Int) (g : Flt) (l : List Flt) : stepF s (g :: l) = if g.num = s then (g, l) else (⟨0, 0, 0⟩, g :: l) := rfl
theorem stepF_sub (s : Int) : ∀ l, (∀ f ∈ l, f.ok) → ∀ f ∈ (stepF s l).2, f.ok
  | [], _, f, h => by simp [stepF] at h
  | g :: l, hl, f, h => by
    rw [stepF_cons] at h
    split at h
    · exact hl f (by simp [show f ∈ l from h])
    · exact hl f h
theorem Good.operated {c : CS} (h : Good c) : Good c.operated := ⟨h.len, h.plen, h.qc, h.gs, h.dat, stepF_sub _ _ h.fok⟩
theorem stepF_ok (s : Int) : ∀ l, (∀ f ∈ l, f.ok) → (stepF s l).1 = ⟨0, 0, 0⟩ ∨ (stepF s l).1.ok
  | [], _ => .inl rfl
  | g :: l, hl => by
    rw [stepF_cons]
    split
    · exact .inr (hl g (by simp))
    · exact .inl rfl
theorem Good.extent {c : CS} (h : Good c) : c.extent = 0 ∨ c.extent = 1 ∨ c.extent = 2 := by
  have := stepF_ok (wrap64 (c.steps + 1)) c.fs h.fok
  unfold CS.extent CS.fault
  rcases this with e | ⟨_, e | e⟩
  · rw [e]; simp
  · rw [if_pos e.1]; exact e.2
  · rw [if_neg (by rw [e.1]; decide), if_pos e.1]; simp
theorem Good.programmed {c : CS} {b : Bk} {data : List Nat} (h : Good c) (hb : b ∈ c.bks) (x : Int) (hn : b.next < c.gp) (hd : data.length ≤ c.gz) (hd2 : ∀ x ∈ data, x < 256) :
    ((b.programmed data x).pgs.length = c.gp ∧ c.gp ≤ (b.programmed data x).cap ∧ (b.programmed data x).cap ≤ maxLen ∧ 0 ≤ (b.programmed data x).next ∧ (b.programmed data x).next ≤ c.gp) ∧ (∀ p ∈ (b.programmed data x).pgs, p.data.length ≤ c.gz ∧ ∀ x ∈ p.data, x < 256) ∧ (b.programmed data x).r = b.r := by
  obtain ⟨h1, h2, h3, h4, h5⟩ := h.plen b hb
  have h6 := h.dat b hb
  unfold Bk.programmed
  split
  · exact ⟨⟨h1, h2, h3, h4, h5⟩, h6, rfl⟩
  · split
    · refine ⟨⟨by simpa using h1, h2, h3, by show 0 ≤ b.next + 1; omega, by show b.next + 1 ≤ _; omega⟩, ?_, rfl⟩
      intro p hp
      rcases List.mem_or_eq_of_mem_set hp with hp | rfl
      · exact h6 p hp
      · exact ⟨by simp, by simp⟩
    · refine ⟨⟨by simpa using h1, h2, h3, by show 0 ≤ b.next + 1; omega, by show b.next + 1 ≤ _; omega⟩, ?_, rfl⟩
      intro p hp
      rcases List.mem_or_eq_of_mem_set hp with hp | rfl
      · exact h6 p hp
      · exact ⟨hd, hd2⟩
theorem Good.erased {c : CS} {b : Bk} (h : Good c) (hb : b ∈ c.bks) (x e : Int) :
    ((({ b with erases := e } : Bk).erased x).pgs.length = c.gp ∧ c.gp ≤ (({ b with erases := e } : Bk).erased x).cap ∧ (({ b with erases := e } : Bk).erased x).cap ≤ maxLen ∧ 0 ≤ (({ b with erases := e } : Bk).erased x).next ∧ (({ b with erases := e } : Bk).erased x).next ≤ c.gp) ∧ (∀ p ∈ (({ b with erases := e } : Bk).erased x).pgs, p.data.length ≤ c.gz ∧ ∀ x ∈ p.data, x < 256) ∧ (({ b with erases := e } : Bk).erased x).r = b.r := by
  obtain ⟨h1, h2, h3, h4, h5⟩ := h.plen b hb
  have h6 := h.dat b hb
  unfold Bk.erased
  split
  · refine ⟨⟨by simpa using h1, h2, h3, by simp, by simp [h1]⟩, ?_, rfl⟩
    intro p hp
    simp at hp
    rw [hp.2]
    exact ⟨by simp, by simp⟩
  · split
    · refine ⟨⟨by simpa using h1, h2, h3, by simp, by simp⟩, ?_, rfl⟩
      intro p hp
      simp at hp
      rw [hp.2]
      exact ⟨by simp, by simp⟩
    · exact ⟨⟨h1, h2, h3, h4, h5⟩, h6, rfl⟩
end Go.Proofs.YtkfecngkdlajgaaGreatDoor
namespace Go.Proofs.YtkfecngkdlajgaaGreatDoor
open Go.RowKit
set_option maxRecDepth 10000

/-- What Program answers, and the chip behind it. -/
def CS.program (c : CS) (block page : Int) (data : List Nat) : Int × CS :=
  if c.on = false then (6, c) else if block < 0 then (22, c) else
  match c.bks[block.toNat]? with
  | none => (22, c)
  | some b => if ¬ (0 ≤ page ∧ page < c.gp) ∨ c.gz < data.length then (22, c) else if b.bad = true ∨ page ≠ b.next then (1, { c with wrong := wrap64 (c.wrong + 1) })
    else (c.told, { c.operated with bks := c.bks.set block.toNat (b.programmed data c.extent) })
/-- What Erase answers, and the chip behind it. -/
def CS.erase (c : CS) (block : Int) : Int × CS :=
  if c.on = false then (6, c) else if block < 0 then (22, c) else
  match c.bks[block.toNat]? with
  | none => (22, c)
  | some b => if b.bad = true then (1, { c with wrong := wrap64 (c.wrong + 1) })
    else (c.told, { c.operated with bks := c.bks.set block.toNat (({ b with erases := wrap64 (b.erases + 1) } : Bk).erased c.extent) })
/-- What Mark answers, and the chip behind it. -/
def CS.mark (c : CS) (block : Int) : Int × CS :=
  if c.on = false then (6, c) else if block < 0 then (22, c) else
  match c.bks[block.toNat]? with
  | none => (22, c)
  | some b => (0, { c with bks := c.bks.set block.toNat { b with bad := true } })
/-- What Read answers. -/
def CS.read (c : CS) (block page : Int) : List Nat × Int :=
  if c.on = false then ([], 6) else if block < 0 then ([], 22) else
  match c.bks[block.toNat]? with
  | none => ([], 22)
  | some b => if page < 0 then ([], 22) else match b.pgs[page.toNat]? with
    | none => ([], 22)
    | some p => (p.bytes c.gz, p.err)
/-- The block of a number. -/
def CS.at (c : CS) (block : Int) : Option Bk := if block < 0 then none else c.bks[block.toNat]?

theorem view_any {base : Nat} {w : World} {c : CS} (h : Lies base w c) (n : Int) :
    Calls Tryz.prog 162 #[.pointer (some ⟨c.p, 0, none⟩), .int .i64 n] w fun e w' => e = .returned (.pointer (match c.at n with | none => none | some _ => some ⟨c.q, n.toNat * 4, none⟩)) ∧ w = w' := by
  obtain ⟨fa, fc, h1, _⟩ := h.chip
  have c4 : w.cell? ⟨c.p, 4, none⟩ = some (.slice (some ⟨c.q, 0, none⟩) c.bks.length c.qcap) := h1.cell (by rfl)
  by_cases h0 : n < 0
  · have e : c.at n = none := by unfold CS.at; rw [if_pos h0]
    rw [e]
    exact view_no _ _ _ _ n w c4 (.inl h0)
  · obtain ⟨i, rfl⟩ : ∃ i : Nat, n = i := ⟨n.toNat, by omega⟩
    have e : c.at i = c.bks[i]? := by unfold CS.at; rw [if_neg h0]; simp
    rw [e]
    by_cases hi : i < c.bks.length
    · rw [List.getElem?_eq_getElem hi]
      exact view_yes _ _ _ _ i w c4 hi
    · rw [List.getElem?_eq_none (by omega)]
      exact view_no _ _ _ _ i w c4 (.inr (by omega))

theorem bad_any {base : Nat} {w : World} {c : CS} (h : Lies base w c) (n : Int) :
    Calls Tryz.prog 121 #[.pointer (some ⟨c.p, 0, none⟩), .int .i64 n] w fun e w' => e = .returned (.bool (match c.at n with | none => false | some b => b.bad)) ∧ w = w' := by
  have hv := view_any h n
  rcases hb : c.at n with _ | b
  · rw [hb] at hv
    clear hb
    go_enter Tryz.func121, Tryz.ntmps121
    go_wp2_with (go_at_call 162; refine hv.mono ?_; rintro e w' ⟨rfl, rfl⟩)
    go_ret
    exact ⟨rfl, rfl⟩
  · rw [hb] at hv
    have hat := At.of h.bks (show c.bks[n.toNat]? = some b by unfold CS.at at hb; split at hb; · cases hb
                                                              · exact hb)
    have h3 := hat.bad
    clear hb hat
    go_enter Tryz.func121, Tryz.ntmps121
    go_wp2_with (go_at_call 162; refine hv.mono ?_; rintro e w' ⟨rfl, rfl⟩)
    go_ret
    exact ⟨rfl, rfl⟩
theorem at_some {c : CS} {n : Int} {b : Bk} (hb : c.at n = some b) : c.bks[n.toNat]? = some b ∧ 0 ≤ n := by
  unfold CS.at at hb
  split at hb
  · cases hb
  · exact ⟨hb, by omega⟩
theorem next_any {base : Nat} {w : World} {c : CS} (h : Lies base w c) (n : Int) :
    Calls Tryz.prog 193 #[.pointer (some ⟨c.p, 0, none⟩), .int .i64 n] w fun e w' => e = .returned (.int .i64 (match c.at n with | none => 0 | some b => b.next)) ∧ w = w' := by
  have hv := view_any h n
  rcases hb : c.at n with _ | b
  · rw [hb] at hv
    clear hb
    go_enter Tryz.func193, Tryz.ntmps193
    go_wp2_with (go_at_call 162; refine hv.mono ?_; rintro e w' ⟨rfl, rfl⟩)
    go_ret
    exact ⟨rfl, rfl⟩
  · rw [hb] at hv
    have h3 := (At.of h.bks (at_some hb).1).next
    clear hb
    go_enter Tryz.func193, Tryz.ntmps193
    go_wp2_with (go_at_call 162; refine hv.mono ?_; rintro e w' ⟨rfl, rfl⟩)
    go_ret
    exact ⟨rfl, rfl⟩
theorem on_any {base : Nat} {w : World} {c : CS} (h : Lies base w c) :
    Calls Tryz.prog 111 #[.pointer (some ⟨c.p, 0, none⟩)] w fun e w' => e = .returned (.bool c.on) ∧ w = w' := by
  obtain ⟨fa, fc, h1, _⟩ := h.chip
  have c5 : w.cell? ⟨c.p, 5, none⟩ = some (.bool c.on) := h1.cell (by rfl)
  go_enter Tryz.func111, Tryz.ntmps111
  go_wp2
  go_ret
  exact ⟨rfl, rfl⟩
theorem wrong_any {base : Nat} {w : World} {c : CS} (h : Lies base w c) :
    Calls Tryz.prog 19 #[.pointer (some ⟨c.p, 0, none⟩)] w fun e w' => e = .returned (.int .i64 c.wrong) ∧ w = w' := by
  obtain ⟨fa, fc, h1, _⟩ := h.chip
  have c5 : w.cell? ⟨c.p, 7, none⟩ = some (.int .i64 c.wrong) := h1.cell (by rfl)
  go_enter Tryz.func19, Tryz.ntmps19
  go_wp2
  go_ret
  exact ⟨rfl, rfl⟩
theorem reach_any {base : Nat} {w : World} {c : CS} (h : Lies base w c) (n : Int) :
    Calls Tryz.prog 122 #[.pointer (some ⟨c.p, 0, none⟩), .int .i64 n] w fun e w' => e = .returned (if c.on = false then .tuple #[.pointer none, .int .i64 6] else match c.at n with | none => .tuple #[.pointer none, .int .i64 22] | some _ => .tuple #[.pointer (some ⟨c.q, n.toNat * 4, none⟩), .int .i64 0]) ∧ w = w' := by
  obtain ⟨fa, fc, h1, _⟩ := h.chip
  have c4 : w.cell? ⟨c.p, 4, none⟩ = some (.slice (some ⟨c.q, 0, none⟩) c.bks.length c.qcap) := h1.cell (by rfl)
  have c5 : w.cell? ⟨c.p, 5, none⟩ = some (.bool c.on) := h1.cell (by rfl)
  by_cases ho : c.on = false
  · rw [if_pos ho]
    rw [ho] at c5
    exact reach_off _ _ _ _ n w c4 c5
  · rw [if_neg ho]
    have ho2 : c.on = true := by simpa using ho
    rw [ho2] at c5
    rcases hb : c.at n with _ | b
    · refine reach_no _ _ _ _ n w c4 c5 ?_
      unfold CS.at at hb
      split at hb
      · left; assumption
      · right; have := List.getElem?_eq_none_iff.1 hb; omega
    · obtain ⟨q1, q2⟩ := at_some hb
      obtain ⟨i, rfl⟩ : ∃ i : Nat, n = i := ⟨n.toNat, by omega⟩
      exact reach_yes _ _ _ _ i w c4 c5 (List.getElem?_eq_some_iff.1 q1).1
theorem reach_none {base : Nat} {w : World} {c : CS} (h : Lies base w c) (n x : Int) (hx : (c.on = false ∧ x = 6) ∨ (c.on = true ∧ c.at n = none ∧ x = 22)) :
    Calls Tryz.prog 122 #[.pointer (some ⟨c.p, 0, none⟩), .int .i64 n] w fun e w' => e = .returned (.tuple #[.pointer none, .int .i64 x]) ∧ w = w' := by
  refine (reach_any h n).mono ?_
  rintro e w' ⟨rfl, hw⟩
  refine ⟨?_, hw⟩
  rcases hx with ⟨h1, rfl⟩ | ⟨h1, h2, rfl⟩
  · rw [if_pos h1]
  · rw [if_neg (by rw [h1]; decide), h2]
theorem reach_some {base : Nat} {w : World} {c : CS} (h : Lies base w c) (n : Int) {b : Bk} (h1 : c.on = true) (h2 : c.at n = some b) :
    Calls Tryz.prog 122 #[.pointer (some ⟨c.p, 0, none⟩), .int .i64 n] w fun e w' => e = .returned (.tuple #[.pointer (some ⟨c.q, n.toNat * 4, none⟩), .int .i64 0]) ∧ w = w' := by
  refine (reach_any h n).mono ?_
  rintro e w' ⟨rfl, hw⟩
  refine ⟨?_, hw⟩
  rw [if_neg (by rw [h1]; decide), h2]
end Go.Proofs.YtkfecngkdlajgaaGreatDoor
